/-
  Layer 10: two lists of wires merged, a list counted: contracts.
  Layer 10: a list counted: contract.
  Layer 6: the operations of a kind: contracts.
  Layer 6: parameters: contracts.
  Layer 10: the plan of a width: contract.
  Layer 10: so many among so many places: contract.
  Layer 10: what the laws ask first: contract.
  Layer 10: widths; what a plan is: contracts, and the law of wires: the call returns true.
  Layer 10's law of wires: the call returns true.
  Layer 10: how many pass: contract.
  Layer 10: few numbers: contract; the law of steps: the call returns true.
  Appending onto a fresh empty slice.
-/
import Derived.Test.YtgkcbihpojkfaaaWireBAll
import Derived.Test.YtgkcbihpojkfaaaChecked
import Derived.WalkKit
import Derived.Deep.RegionWith
import Derived.BigQuiet
import Derived.Deep.QuietTactic
import Derived.Test.YtgkcbihpojkfaaaBoxGAll
namespace Go.Proofs.Ytgkcbihpojkfaaa
open Go.RowKit Go.Sort

theorem every0_any (w : World) (a : Option Addr) (c n : Nat) (S : Nat → Prop) (l : List Nat) (hn : l.length = n) (h : NsAt w a S l) (hl : n ≤ 64) :
    Calls Try.prog 26 #[.slice a n c, .int .i64 0] w fun e w' => ∃ oa oc m, e = .returned (.slice oa m oc) ∧ (Wr.ev l).length = m ∧ NsAt w' oa (fun j => j < w.heap.size) (Wr.ev l) ∧ Below w.heap.size w w' :=
  every_any w a c 0 n S l (by omega) hn h hl
theorem every1_any (w : World) (a : Option Addr) (c n : Nat) (S : Nat → Prop) (l : List Nat) (hn : l.length = n) (h : NsAt w a S l) (hl : n ≤ 64) :
    Calls Try.prog 26 #[.slice a n c, .int .i64 1] w fun e w' => ∃ oa oc m, e = .returned (.slice oa m oc) ∧ (Wr.od l).length = m ∧ NsAt w' oa (fun j => j < w.heap.size) (Wr.od l) ∧ Below w.heap.size w w' := by
  have := every_any w a c 1 n S l (by omega) hn h hl
  rw [List.drop_one] at this
  exact this

/-- How many gates. -/
def mg : Nat → Nat
  | 0 => 1
  | d + 1 => 2 * mg d + 2 ^ (d + 1)
def cg : Nat → Nat
  | 0 => 0
  | d + 1 => 2 * cg d + mg d
theorem merge_gates : ∀ (d : Nat) (x y : List Nat), x.length = 2 ^ d → y.length = 2 ^ d → (Wr.merge d x y).1.length = mg d
  | 0, x, y, hx, hy => by simp [Wr.merge, hx, hy, mg]
  | d + 1, x, y, hx, hy => by
    rw [Wr.pow_succ2] at hx hy
    have h1 := merge_gates d (Wr.ev x) (Wr.od y) (Wr.ev_length _ _ hx) (Wr.od_length _ _ hy)
    have h2 := merge_gates d (Wr.od x) (Wr.ev y) (Wr.od_length _ _ hx) (Wr.ev_length _ _ hy)
    have l1 := Wr.merge_length d (Wr.ev x) (Wr.od y) (Wr.ev_length _ _ hx) (Wr.od_length _ _ hy)
    have l2 := Wr.merge_length d (Wr.od x) (Wr.ev y) (Wr.od_length _ _ hx) (Wr.ev_length _ _ hy)
    simp only [Wr.merge, List.length_append, List.length_zip, h1, h2, l1, l2, mg, Wr.pow_succ2]
    omega
theorem count_gates : ∀ (d : Nat) (l : List Nat), l.length = 2 ^ d → (Wr.count d l).1.length = cg d
  | 0, l, _ => rfl
  | d + 1, l, h => by
    rw [Wr.pow_succ2] at h
    have l1 : (l.take (2 ^ d)).length = 2 ^ d := by rw [List.length_take]; omega
    have l2 : (l.drop (2 ^ d)).length = 2 ^ d := by rw [List.length_drop]; omega
    have h1 := count_gates d _ l1
    have h2 := count_gates d _ l2
    have h3 := merge_gates d _ _ (Wr.count_length d _ l1) (Wr.count_length d _ l2)
    simp only [Wr.count, List.length_append, h1, h2, h3, cg]
    omega

set_option maxRecDepth 20000 in
set_option maxHeartbeats 4000000 in
theorem merge_any : ∀ (d : Nat) (w : World) (pb : Nat) (ga : Option Addr) (gc : Nat) (wd : Int) (m : Nat) (oa : Option Addr) (on oc : Nat) (G : List (Nat × Nat)) (xa ya : Option Addr) (xc yc n : Nat) (x y : List Nat),
    PlanAt w pb ga gc wd m oa on oc G → NsAt w xa (pset pb ga) x → NsAt w ya (pset pb ga) y → x.length = n → y.length = n → n = 2 ^ d → n ≤ 32 → m + mg d ≤ 900 →
    Calls Try.prog 23 #[.pointer (some ⟨pb, 0, none⟩), .slice xa n xc, .slice ya n yc] w (JoinEnd none w pb ga wd m oa on oc G (Wr.merge d x y).1 (Wr.merge d x y).2) := by
  intro d
  induction d with
  | zero =>
    intro w pb ga gc wd m oa on oc G xa ya xc yc n x y hP hx hy hlx hly hn _ hm
    have hn1 : n = 1 := hn
    subst hn1
    have hJ := join_any w pb ga gc wd m oa on oc G xa ya xc yc 1 x y hP hx hy hlx hly (by decide) (by omega)
    clear hP hx hy hlx hly hn hm
    go_enter Try.func23, Try.ntmps23
    go_wp2_with fail
    refine hJ.mono ?_
    rintro e w1 hE
    obtain ⟨ga', gc', ra, rc, n', rfl, hE⟩ := hE
    go_wp2_with fail
    go_ret
    exact ⟨ga', gc', ra, rc, n', rfl, hE⟩
  | succ d ih =>
    intro w pb ga gc wd m oa on oc G xa ya xc yc n x y hP hx hy hlx hly hn hn32 hm
    obtain ⟨h, hh⟩ : ∃ h, h = 2 ^ d := ⟨_, rfl⟩
    have hn2 : n = 2 * h := by rw [hn, Wr.pow_succ2, hh]
    have hpos : 1 ≤ h := by have := Nat.two_pow_pos d; omega
    have hne : ((n : Int) == 1) = false := by simp; omega
    have hmg : mg (d + 1) = 2 * mg d + 2 * h := by rw [mg, Wr.pow_succ2, hh]
    have lx : x.length = 2 * h := by omega
    have ly : y.length = 2 * h := by omega
    have ex := Wr.ev_length _ _ lx
    have ox := Wr.od_length _ _ lx
    have ey := Wr.ev_length _ _ ly
    have oy := Wr.od_length _ _ ly
    have g1 := merge_gates d (Wr.ev x) (Wr.od y) (by omega) (by omega)
    have g2 := merge_gates d (Wr.od x) (Wr.ev y) (by omega) (by omega)
    have l1 := Wr.merge_length d (Wr.ev x) (Wr.od y) (by omega) (by omega)
    have l2 := Wr.merge_length d (Wr.od x) (Wr.ev y) (by omega) (by omega)
    have e1 : (Wr.merge (d + 1) x y).1 = (Wr.merge d (Wr.ev x) (Wr.od y)).1 ++ (Wr.merge d (Wr.od x) (Wr.ev y)).1 ++ (Wr.merge d (Wr.ev x) (Wr.od y)).2.zip (Wr.merge d (Wr.od x) (Wr.ev y)).2 := rfl
    have e2 : (Wr.merge (d + 1) x y).2 = Wr.inter (Wr.merge d (Wr.ev x) (Wr.od y)).2 (Wr.merge d (Wr.od x) (Wr.ev y)).2 := rfl
    rw [e1, e2]
    clear e1 e2
    have IH := hidq ih
    have HN := hidq (And.intro hn2 (And.intro hpos (And.intro hh (And.intro hmg (And.intro g1 (And.intro g2 (And.intro l1 l2)))))))
    have HE := hidq (And.intro ex (And.intro ox (And.intro ey oy)))
    have HX := hidq (And.intro hx (And.intro hy (And.intro hlx hly)))
    have HP := hidq hP
    have HM := hidq (And.intro hm hn32)
    have k1 := every0_any w xa xc n _ x hlx hx (by omega)
    clear ih hn2 hpos hh hmg g1 g2 l1 l2 ex ox ey oy hx hy hlx hly hP hm hn32 hn lx ly
    generalize hA : Wr.merge d (Wr.ev x) (Wr.od y) = A at HN ⊢
    generalize hB : Wr.merge d (Wr.od x) (Wr.ev y) = B at HN ⊢
    have HAB := hidq (And.intro hA hB)
    clear hA hB
    go_enter Try.func23, Try.ntmps23
    go_wp2_with fail
    refine k1.mono ?_
    rintro e w1 ⟨a1, c1, m1, rfl, hm1, hN1, hb1⟩
    clear k1
    have k2 := every1_any w1 ya yc n _ y HX.out.2.2.2 (HX.out.2.1.below hb1) (by have := HM.out.2; omega)
    go_wp2_with fail
    refine k2.mono ?_
    rintro e w2 ⟨a2, c2, m2, rfl, hm2, hN2, hb2⟩
    clear k2
    have hb02 : Below w.heap.size w w2 := hb1.trans (hb2.mono hb1.size)
    obtain rfl : m1 = h := by rw [← hm1]; exact HE.out.1
    obtain rfl : m2 = m1 := by rw [← hm2]; exact HE.out.2.2.2
    have hlt := HP.out.lt
    have hs1 := hb1.size
    have k3 := IH.out w2 pb ga gc wd m oa on oc G a1 a2 c1 c2 m2 (Wr.ev x) (Wr.od y) (HP.out.below hb02) ((hN1.below hb2).mono (fun j _ hj => hlt j hj)) (hN2.mono (fun j _ hj => Nat.lt_of_lt_of_le (hlt j hj) hs1)) hm1 hm2 HN.out.2.2.1 (by have := HM.out.2; have := HN.out.1; omega) (by have := HM.out.1; have := HN.out.2.2.2.1; omega)
    rw [HAB.out.1] at k3
    clear hN1 hN2 hm1 hm2 hs1
    have HB2 := hidq hb02
    clear hb1 hb2 hb02 hlt
    go_wp2_with fail
    refine k3.mono ?_
    rintro e w3 ⟨ga1, gc1, ra1, rc1, n1, rfl, hn1, hP3, hE3, hR3, _⟩
    clear k3
    have hE03 : PEnd pb ga w ga1 w3 := (PEnd.below HB2.out).trans hE3
    have H3 := hidq (And.intro hn1 (And.intro hP3 (And.intro hE03 hR3)))
    have k4 := every1_any w3 xa xc n _ x HX.out.2.2.1 (HX.out.1.but hE03.1 hE03.2) (by have := HM.out.2; omega)
    clear hn1 hP3 hE3 hR3 hE03
    go_wp2_with fail
    refine k4.mono ?_
    rintro e w4 ⟨a4, c4, m4, rfl, hm4, hN4, hb4⟩
    clear k4
    have k5 := every0_any w4 ya yc n _ y HX.out.2.2.2 ((HX.out.2.1.but H3.out.2.2.1.1 H3.out.2.2.1.2).below hb4) (by have := HM.out.2; omega)
    go_wp2_with fail
    refine k5.mono ?_
    rintro e w5 ⟨a5, c5, m5, rfl, hm5, hN5, hb5⟩
    clear k5
    obtain rfl : m4 = m2 := by rw [← hm4]; exact HE.out.2.1
    obtain rfl : m5 = m4 := by rw [← hm5]; exact HE.out.2.2.1
    have hb35 : Below w3.heap.size w3 w5 := hb4.trans (hb5.mono hb4.size)
    have hlt := H3.out.2.1.lt
    have hs4 := hb4.size
    have k6 := IH.out w5 pb ga1 gc1 wd _ oa on oc _ a4 a5 c4 c5 m5 (Wr.od x) (Wr.ev y) (H3.out.2.1.below hb35) ((hN4.below hb5).mono (fun j _ hj => hlt j hj)) (hN5.mono (fun j _ hj => Nat.lt_of_lt_of_le (hlt j hj) hs4)) hm4 hm5 HN.out.2.2.1 (by have := HM.out.2; have := HN.out.1; omega) (by have := HM.out.1; have := HN.out.2.2.2.1; have := HN.out.2.2.2.2.1; omega)
    rw [HAB.out.2] at k6
    have HB5 := hidq hb35
    clear hN4 hN5 hm4 hm5 hs4 hb4 hb5 hb35 hlt
    go_wp2_with fail
    refine k6.mono ?_
    rintro e w6 ⟨ga2, gc2, ra2, rc2, n2, rfl, hn2, hP6, hE6, hR6, _⟩
    clear k6
    have hE36 : PEnd pb ga1 w3 ga2 w6 := (PEnd.below HB5.out).trans hE6
    obtain rfl : n1 = n2 := by rw [← H3.out.1, ← hn2, HN.out.2.2.2.2.2.2.1, HN.out.2.2.2.2.2.2.2]
    have k7 := join_any w6 pb ga2 gc2 wd _ oa on oc _ ra1 ra2 rc1 rc2 n1 _ _ hP6 (H3.out.2.2.2.but hE36.1 hE36.2) hR6 H3.out.1 hn2 (by have := HM.out.2; have := HN.out.1; have := HN.out.2.2.2.2.2.2.1; have := HN.out.2.2.1; have := H3.out.1; omega) (by have := HM.out.1; have := HN.out.2.2.2.1; have := HN.out.2.2.2.2.1; have := HN.out.2.2.2.2.2.1; omega)
    have HE6 := hidq (H3.out.2.2.1.trans hE36)
    clear hE36 hn2 hP6 hE6 hR6
    go_wp2_with fail
    refine k7.mono ?_
    rintro e w7 ⟨ga3, gc3, ra3, rc3, n3, rfl, hn3, hP7, hE7, hR7, hQ7⟩
    clear k7
    have HF := hidq (show JoinEnd none w pb ga wd m oa on oc G (A.1 ++ B.1 ++ A.2.zip B.2) (Wr.inter A.2 B.2) (.returned (.slice ra3 n3 rc3)) w7 from
      ⟨ga3, gc3, ra3, rc3, n3, rfl, hn3, by
        have e1 : m + (A.1 ++ B.1 ++ A.2.zip B.2).length = m + A.1.length + B.1.length + (A.2.zip B.2).length := by rw [List.length_append, List.length_append]; omega
        have e2 : G ++ (A.1 ++ B.1 ++ A.2.zip B.2) = G ++ A.1 ++ B.1 ++ A.2.zip B.2 := by simp
        rw [e1, e2]; exact hP7, HE6.out.trans hE7, hR7, fun j hj => (hQ7 j hj).imp id (fun h => Nat.le_trans HE6.out.1.size h)⟩)
    clear hn3 hP7 hE7 hR7 hQ7
    go_wp2_with fail
    go_ret
    exact HF
end Go.Proofs.Ytgkcbihpojkfaaa

namespace Go.Proofs.Ytgkcbihpojkfaaa
open Go.RowKit Go.Sort

theorem NsAt.take {w : World} {a : Option Addr} {S : Nat → Prop} {l : List Nat} (h : NsAt w a S l) (k : Nat) : NsAt w a S (l.take k) := fun i v hv => by
  refine h i v ?_
  rw [List.getElem?_take] at hv
  split at hv
  · exact hv
  · cases hv
theorem NsAt.drop {w : World} {b off : Nat} {S : Nat → Prop} {l : List Nat} (h : NsAt w (some ⟨b, off, none⟩) S l) (k : Nat) : NsAt w (some ⟨b, off + k, none⟩) S (l.drop k) := fun i v hv => by
  rw [List.getElem?_drop] at hv
  obtain ⟨b', off', h1, h2, h3, h4⟩ := h _ v hv
  cases h1
  exact ⟨b, off + k, rfl, h2, h3, by rw [Nat.add_assoc]; exact h4⟩

set_option maxRecDepth 20000 in
set_option maxHeartbeats 4000000 in
theorem count_any : ∀ (d : Nat) (w : World) (pb : Nat) (ga : Option Addr) (gc : Nat) (wd : Int) (m : Nat) (oa : Option Addr) (on oc : Nat) (G : List (Nat × Nat)) (lb lo lc n : Nat) (l : List Nat),
    PlanAt w pb ga gc wd m oa on oc G → NsAt w (some ⟨lb, lo, none⟩) (pset pb ga) l → l.length = n → n = 2 ^ d → n ≤ 32 → n ≤ lc → lc ≤ 100 → m + cg d ≤ 900 →
    Calls Try.prog 19 #[.pointer (some ⟨pb, 0, none⟩), .slice (some ⟨lb, lo, none⟩) n lc] w (JoinEnd (some ⟨lb, lo, none⟩) w pb ga wd m oa on oc G (Wr.count d l).1 (Wr.count d l).2) := by
  intro d
  induction d with
  | zero =>
    intro w pb ga gc wd m oa on oc G lb lo lc n l hP hl hll hn _ _ _ _
    have hn1 : n = 1 := hn
    subst hn1
    have HF := hidq (show JoinEnd (some ⟨lb, lo, none⟩) w pb ga wd m oa on oc G (Wr.count 0 l).1 (Wr.count 0 l).2 (.returned (.slice (some ⟨lb, lo, none⟩) 1 lc)) w from
      ⟨ga, gc, _, lc, 1, rfl, hll, by simpa [Wr.count] using hP, PEnd.refl _ _ _, hl, fun j hj => .inl hj⟩)
    clear hP hl hll hn
    go_enter Try.func19, Try.ntmps19
    go_wp2_with fail
    go_ret
    exact HF
  | succ d ih =>
    intro w pb ga gc wd m oa on oc G lb lo lc n l hP hl hll hn hn32 hlc hlc2 hm
    obtain ⟨h, hh⟩ : ∃ h, h = 2 ^ d := ⟨_, rfl⟩
    have hn2 : n = 2 * h := by rw [hn, Wr.pow_succ2, hh]
    have hpos : 1 ≤ h := by have := Nat.two_pow_pos d; omega
    have hne : ((n : Int) == 1) = false := by simp; omega
    have hdiv : (n : Int) / 2 = (h : Int) := by omega
    have l1 : (l.take (2 ^ d)).length = h := by rw [List.length_take]; omega
    have l2 : (l.drop (2 ^ d)).length = h := by rw [List.length_drop]; omega
    have c1 := count_gates d _ (l1.trans hh)
    have c2 := count_gates d _ (l2.trans hh)
    have q1 := Wr.count_length d _ (l1.trans hh)
    have q2 := Wr.count_length d _ (l2.trans hh)
    have g3 := merge_gates d _ _ q1 q2
    have e1 : (Wr.count (d + 1) l).1 = (Wr.count d (l.take (2 ^ d))).1 ++ (Wr.count d (l.drop (2 ^ d))).1 ++ (Wr.merge d (Wr.count d (l.take (2 ^ d))).2 (Wr.count d (l.drop (2 ^ d))).2).1 := rfl
    have e2 : (Wr.count (d + 1) l).2 = (Wr.merge d (Wr.count d (l.take (2 ^ d))).2 (Wr.count d (l.drop (2 ^ d))).2).2 := rfl
    have hcg : cg (d + 1) = 2 * cg d + mg d := rfl
    rw [e1, e2]
    clear e1 e2
    have k1 := ih w pb ga gc wd m oa on oc G lb lo lc h (l.take (2 ^ d)) hP (hl.take _) l1 hh (by omega) (by omega) hlc2 (by omega)
    have hl2 := hl.drop (2 ^ d)
    rw [← hh] at hl2 l2
    rw [← hh] at k1 c1 c2 q1 q2 g3 ⊢
    have IH := hidq ih
    generalize hA : Wr.count d (l.take h) = A at *
    generalize hB : Wr.count d (l.drop h) = B at *
    have HN := hidq (And.intro hn2 (And.intro hpos (And.intro hcg (And.intro c1 (And.intro c2 (And.intro q1 (And.intro q2 g3)))))))
    have HM := hidq (And.intro hm (And.intro hn32 (And.intro hlc hlc2)))
    have HL := hidq (And.intro hl2 (And.intro l2 hB))
    have HH := hidq hh
    have hhn : (h : Int) ≤ (n : Int) := by omega
    have hhl : (h : Int) ≤ (lc : Int) := by omega
    have hnl : (n : Int) ≤ (lc : Int) := by omega
    have hh0 : (0 : Int) ≤ (h : Int) := by omega
    have hltc : h < lc := by omega
    have hh32 : (h : Int) ≤ 32 := by omega
    have hnh : n - h = h := by omega
    have hsz : lo + h * 1 = lo + h := by omega
    clear ih hn2 hpos hcg c1 c2 q1 q2 g3 hm hn32 hlc hlc2 hl2 l2 hB hl hll hn hh l1 hA hP
    go_enter Try.func19, Try.ntmps19
    go_wp2_with fail
    refine k1.mono ?_
    rintro e w3 ⟨ga1, gc1, ra1, rc1, n1, rfl, hn1, hP3, hE3, hR3, _⟩
    clear k1
    have k2 := IH.out w3 pb ga1 gc1 wd _ oa on oc _ lb (lo + h) (lc - h) h (l.drop h) hP3 (HL.out.1.but hE3.1 hE3.2) HL.out.2.1 HH.out (by have := HM.out; have := HN.out.1; omega) (by have := HM.out; have := HN.out.1; omega) (by have := HM.out; omega) (by have := HM.out; have := HN.out; omega)
    rw [HL.out.2.2] at k2
    have H3 := hidq (And.intro hn1 (And.intro hP3 (And.intro hE3 hR3)))
    clear hn1 hP3 hE3 hR3
    go_wp2_with fail
    refine k2.mono ?_
    rintro e w4 ⟨ga2, gc2, ra2, rc2, n2, rfl, hn2, hP4, hE4, hR4, _⟩
    clear k2
    obtain rfl : n1 = h := by rw [← H3.out.1]; exact HN.out.2.2.2.2.2.1
    obtain rfl : n2 = n1 := by rw [← hn2]; exact HN.out.2.2.2.2.2.2.1
    have k3 := merge_any d w4 pb ga2 gc2 wd _ oa on oc _ ra1 ra2 rc1 rc2 n2 A.2 B.2 hP4 (H3.out.2.2.2.but hE4.1 hE4.2) hR4 H3.out.1 hn2 HH.out (by have := HM.out; have := HN.out.1; omega) (by have := HM.out; have := HN.out; omega)
    have HE4 := hidq (H3.out.2.2.1.trans hE4)
    clear hn2 hP4 hE4 hR4
    go_wp2_with fail
    refine k3.mono ?_
    rintro e w5 ⟨ga3, gc3, ra3, rc3, n3, rfl, hn3, hP5, hE5, hR5, hQ5⟩
    clear k3
    have HF := hidq (show JoinEnd (some ⟨lb, lo, none⟩) w pb ga wd m oa on oc G (A.1 ++ B.1 ++ (Wr.merge d A.2 B.2).1) (Wr.merge d A.2 B.2).2 (.returned (.slice ra3 n3 rc3)) w5 from
      ⟨ga3, gc3, ra3, rc3, n3, rfl, hn3, by
        have e1 : m + (A.1 ++ B.1 ++ (Wr.merge d A.2 B.2).1).length = m + A.1.length + B.1.length + (Wr.merge d A.2 B.2).1.length := by rw [List.length_append, List.length_append]; omega
        have e2 : G ++ (A.1 ++ B.1 ++ (Wr.merge d A.2 B.2).1) = G ++ A.1 ++ B.1 ++ (Wr.merge d A.2 B.2).1 := by simp
        rw [e1, e2]; exact hP5, HE4.out.trans hE5, hR5, fun j hj => (hQ5 j hj).elim (fun ⟨_, h, _⟩ => by cases h) (fun h => .inr (Nat.le_trans HE4.out.1.size h))⟩)
    clear hn3 hP5 hE5 hR5 hQ5
    go_wp2_with fail
    go_ret
    exact HF
end Go.Proofs.Ytgkcbihpojkfaaa

namespace Go.Proofs.Ytgkcbihpojkfaaa
open Go.RowKit

theorem run_store_flt {P : Program} (a : Addr) (n : Nat) (w : World) : (store a (.float .f64 n)).run P w = stored P w a (.float .f64 n) .plain := run_store P w a _ _ rfl

/-- Integers in a row. -/
def IntsAt (w : World) (a : Option Addr) (l : List Int) : Prop :=
  ∀ i, i < l.length → ∃ b, a = some ⟨b, 0, none⟩ ∧ b < w.heap.size ∧ w.cell? ⟨b, i, none⟩ = some (.int .i64 l[i]!)
theorem IntsAt.below {w w' : World} {a : Option Addr} {l : List Int} (h : IntsAt w a l) (hb : Below w.heap.size w w') : IntsAt w' a l := fun i hi => by
  obtain ⟨b, h1, h2, h3⟩ := h i hi
  exact ⟨b, h1, Nat.lt_of_lt_of_le h2 hb.size, by rw [hb.cell (p := ⟨b, i, none⟩) h2]; exact h3⟩

/-- The operations of a kind: the first, the last. -/
def opFrom (k : Int) : Int := if k = 1 then 1 else if k = 2 then 3 else if k = 3 then 5 else if k = 4 then 7 else 0
def opTo (k : Int) : Int := if k = 1 then 2 else if k = 2 then 4 else if k = 3 then 6 else if k = 4 then 7 else -1
def opl (k : Int) : List Int := if k = 1 then [1, 2] else if k = 2 then [3, 4] else if k = 3 then [5, 6] else if k = 4 then [7] else []
theorem kinds (k : Int) : k = 1 ∨ k = 2 ∨ k = 3 ∨ k = 4 ∨ (¬ k = 1 ∧ ¬ k = 2 ∧ ¬ k = 3 ∧ ¬ k = 4) := by omega
theorem opl_none {k : Int} (h : ¬ k = 1 ∧ ¬ k = 2 ∧ ¬ k = 3 ∧ ¬ k = 4) : opl k = [] ∧ opFrom k = 0 ∧ opTo k = -1 := by
  unfold opl opFrom opTo
  rw [if_neg h.1, if_neg h.2.1, if_neg h.2.2.1, if_neg h.2.2.2, if_neg h.1, if_neg h.2.1, if_neg h.2.2.1, if_neg h.2.2.2, if_neg h.1, if_neg h.2.1, if_neg h.2.2.1, if_neg h.2.2.2]
  exact ⟨rfl, rfl, rfl⟩
theorem opl_length (k : Int) : ((opl k).length : Int) = opTo k - opFrom k + 1 ∧ (opl k).length ≤ 2 := by
  rcases kinds k with rfl | rfl | rfl | rfl | h
  · decide
  · decide
  · decide
  · decide
  · rw [(opl_none h).1, (opl_none h).2.1, (opl_none h).2.2]; decide
theorem opl_get (k : Int) (i : Nat) (hi : i < (opl k).length) : (opl k)[i]! = opFrom k + (i : Int) := by
  rcases kinds k with rfl | rfl | rfl | rfl | h
  · have : i = 0 ∨ i = 1 := by have : i < 2 := hi; omega
    rcases this with rfl | rfl <;> decide
  · have : i = 0 ∨ i = 1 := by have : i < 2 := hi; omega
    rcases this with rfl | rfl <;> decide
  · have : i = 0 ∨ i = 1 := by have : i < 2 := hi; omega
    rcases this with rfl | rfl <;> decide
  · have : i = 0 := by have : i < 1 := hi; omega
    subst this; decide
  · rw [(opl_none h).1] at hi; exact absurd hi (Nat.not_lt_zero _)
theorem op_rng (k : Int) : 0 ≤ opFrom k ∧ opFrom k ≤ 7 ∧ -1 ≤ opTo k ∧ opTo k ≤ 7 ∧ (∀ x, x ∈ opl k ↔ opFrom k ≤ x ∧ x ≤ opTo k) := by
  rcases kinds k with rfl | rfl | rfl | rfl | h
  · refine ⟨by decide, by decide, by decide, by decide, fun x => ?_⟩
    show x ∈ [(1 : Int), 2] ↔ (1 : Int) ≤ x ∧ x ≤ 2
    simp; omega
  · refine ⟨by decide, by decide, by decide, by decide, fun x => ?_⟩
    show x ∈ [(3 : Int), 4] ↔ (3 : Int) ≤ x ∧ x ≤ 4
    simp; omega
  · refine ⟨by decide, by decide, by decide, by decide, fun x => ?_⟩
    show x ∈ [(5 : Int), 6] ↔ (5 : Int) ≤ x ∧ x ≤ 6
    simp; omega
  · refine ⟨by decide, by decide, by decide, by decide, fun x => ?_⟩
    show x ∈ [(7 : Int)] ↔ (7 : Int) ≤ x ∧ x ≤ 7
    simp; omega
  · rw [(opl_none h).1, (opl_none h).2.1, (opl_none h).2.2]
    refine ⟨by decide, by decide, by decide, by decide, fun x => ?_⟩
    simp; omega

theorem ints_new (w : World) (l : List Int) (t : TypeId) : IntsAt (w.alloc (.cells (l.map (Value.int .i64)).toArray t)) (some ⟨w.heap.size, 0, none⟩) l := fun i hi =>
  ⟨w.heap.size, rfl, by simp, by rw [World.cell?_alloc_new, List.getElem?_toArray, List.getElem?_map, List.getElem?_eq_getElem hi, getElem!_pos l i hi]; rfl⟩

theorem of_any (k : Int) (w : World) : Calls Try.prog 21 #[.int .i64 k] w fun e w' => ∃ a, e = .returned (.slice a (opl k).length (opl k).length) ∧ IntsAt w' a (opl k) ∧ Below w.heap.size w w' := by
  rcases kinds k with rfl | rfl | rfl | rfl | h
  · go_enter Try.func21, Try.ntmps21
    go_wp2
    go_ret
    exact ⟨_, rfl, ints_new w [1, 2] _, (Below.refl _ _).alloc (Nat.le_refl _) _⟩
  · go_enter Try.func21, Try.ntmps21
    go_wp2
    go_ret
    exact ⟨_, rfl, ints_new w [3, 4] _, (Below.refl _ _).alloc (Nat.le_refl _) _⟩
  · go_enter Try.func21, Try.ntmps21
    go_wp2
    go_ret
    exact ⟨_, rfl, ints_new w [5, 6] _, (Below.refl _ _).alloc (Nat.le_refl _) _⟩
  · go_enter Try.func21, Try.ntmps21
    go_wp2
    go_ret
    exact ⟨_, rfl, ints_new w [7] _, (Below.refl _ _).alloc (Nat.le_refl _) _⟩
  · rw [(opl_none h).1]
    obtain ⟨h1, h2, h3, h4⟩ := h
    go_enter Try.func21, Try.ntmps21
    go_wp2
    go_ret
    exact ⟨none, rfl, fun i hi => absurd hi (Nat.not_lt_zero _), Below.refl _ _⟩

end Go.Proofs.Ytgkcbihpojkfaaa

namespace Go.Proofs.Ytgkcbihpojkfaaa
open Go.RowKit

/-- A draw among so many. -/
def into (d n : Int) : Int := if n < 1 then 0 else d % n
theorem into_lo {d n : Int} (h : n < 1) : into d n = 0 := if_pos h
theorem into_hi {d n : Int} (h : ¬ n < 1) : into d n = d % n := if_neg h
theorem tmod_emod_nonneg {d n : Int} (hn : 1 ≤ n) (h : 0 ≤ d.tmod n) : d.tmod n = d % n := by
  have h1 := Int.tmod_add_mul_tdiv d n
  have h2 := Int.tmod_lt_of_pos d (show 0 < n by omega)
  have h3 : d.tmod n % n = d.tmod n := Int.emod_eq_of_lt h h2
  have h4 : d % n = (d.tmod n + n * d.tdiv n) % n := by rw [h1]
  rw [h4, Int.add_mul_emod_self_left, h3]
theorem tmod_emod_neg {d n : Int} (hn : 1 ≤ n) (h : d.tmod n < 0) : d.tmod n + n = d % n := by
  have h1 := Int.tmod_add_mul_tdiv d n
  have h2 := Int.lt_tmod_of_pos d (show 0 < n by omega)
  have h3 : (d.tmod n + n) % n = d.tmod n + n := Int.emod_eq_of_lt (by omega) (by omega)
  have h4 : d % n = (d.tmod n + n * d.tdiv n) % n := by rw [h1]
  rw [h4, Int.add_mul_emod_self_left, ← h3, Int.add_emod_right]
theorem into_rng {d n : Int} (hn : 1 ≤ n) : 0 ≤ into d n ∧ into d n < n := by
  rw [into_hi (by omega)]
  exact ⟨Int.emod_nonneg _ (by omega), Int.emod_lt_of_pos _ (by omega)⟩

def pow2 (p : Int) : Bool := decide (p = 1 ∨ p = 2 ∨ p = 4 ∨ p = 8 ∨ p = 16)
theorem pow2_any (p : Int) (w : World) (h : 1 ≤ p ∧ p ≤ 16) : Calls Try.prog 22 #[.int .i64 p] w fun e w' => e = .returned (.bool (pow2 p)) ∧ w' = w := by
  have hp : bits .and .i64 p (p - 1) = 0 ↔ pow2 p = true := by
    have : p = 1 ∨ p = 2 ∨ p = 3 ∨ p = 4 ∨ p = 5 ∨ p = 6 ∨ p = 7 ∨ p = 8 ∨ p = 9 ∨ p = 10 ∨ p = 11 ∨ p = 12 ∨ p = 13 ∨ p = 14 ∨ p = 15 ∨ p = 16 := by omega
    rcases this with rfl | rfl | rfl | rfl | rfl | rfl | rfl | rfl | rfl | rfl | rfl | rfl | rfl | rfl | rfl | rfl <;> decide
  cases hq : pow2 p
  · have hb : (bits .and .i64 p (p - 1) == 0) = false := by
      cases he : (bits .and .i64 p (p - 1) == 0)
      · rfl
      · rw [hp.1 (by simpa using he)] at hq; cases hq
    clear hp hq
    go_enter Try.func22, Try.ntmps22
    go_wp2
    go_ret
    exact ⟨rfl, rfl⟩
  · have hb := hp.2 hq
    clear hp hq
    go_enter Try.func22, Try.ntmps22
    go_wp2
    go_ret
    exact ⟨rfl, rfl⟩

/-- May a structure of a kind have this parameter? -/
def legal (k p : Int) : Int := if ¬ (1 ≤ k ∧ k ≤ 4) then 6 else if ¬ (1 ≤ p ∧ p ≤ 16) then 5 else if k = 4 ∧ pow2 p = false then 5 else 0
theorem legal_kind {k p : Int} (h : ¬ (1 ≤ k ∧ k ≤ 4)) : legal k p = 6 := if_pos h
theorem legal_par {k p : Int} (h : 1 ≤ k ∧ k ≤ 4) (hp : ¬ (1 ≤ p ∧ p ≤ 16)) : legal k p = 5 := by unfold legal; rw [if_neg (fun e => e h), if_pos hp]
theorem legal_net {k p : Int} (h : 1 ≤ k ∧ k ≤ 4) (hp : 1 ≤ p ∧ p ≤ 16) (hq : k = 4 ∧ pow2 p = false) : legal k p = 5 := by unfold legal; rw [if_neg (fun e => e h), if_neg (fun e => e hp), if_pos hq]
theorem legal_ok {k p : Int} (h : 1 ≤ k ∧ k ≤ 4) (hp : 1 ≤ p ∧ p ≤ 16) (hq : ¬ (k = 4 ∧ pow2 p = false)) : legal k p = 0 := by unfold legal; rw [if_neg (fun e => e h), if_neg (fun e => e hp), if_neg hq]
theorem opl_pos (k : Int) : ((opl k).length = 0 ↔ ¬ (1 ≤ k ∧ k ≤ 4)) := by
  rcases kinds k with rfl | rfl | rfl | rfl | h
  · decide
  · decide
  · decide
  · decide
  · rw [(opl_none h).1]; simp; omega

set_option maxHeartbeats 2000000 in
theorem legal_any (k p : Int) (w : World) : Calls Try.prog 18 #[.int .i64 k, .int .i64 p] w fun e w' => e = .returned (.int .i64 (legal k p)) ∧ Below w.heap.size w w' := by
  have hO := of_any k w
  have hl := opl_pos k
  have hl2 := (opl_length k).2
  generalize opl k = l at *
  by_cases hk : 1 ≤ k ∧ k ≤ 4
  · have hn : ((l.length : Int) == 0) = false := by
      have : ¬ l.length = 0 := fun e => hl.1 e hk
      simp; intro e; exact this (by simp [e])
    generalize l.length = n at *
    clear hl hl2
    by_cases hp : p < 1
    · rw [legal_par hk (by omega)]
      clear hk
      go_enter Try.func18, Try.ntmps18
      go_wp2_with (go_at_call 21; refine hO.mono ?_; rintro e w1 ⟨a, rfl, hi, hb⟩)
      go_ret
      exact ⟨rfl, hb⟩
    · have hp1 : decide (p < 1) = false := decide_eq_false hp
      by_cases hq : 16 < p
      · rw [legal_par hk (by omega)]
        clear hk hp
        go_enter Try.func18, Try.ntmps18
        go_wp2_with (go_at_call 21; refine hO.mono ?_; rintro e w1 ⟨a, rfl, hi, hb⟩)
        go_ret
        exact ⟨rfl, hb⟩
      · have hq1 : decide (16 < p) = false := decide_eq_false hq
        have hpp : 1 ≤ p ∧ p ≤ 16 := by omega
        have hP := fun w => pow2_any p w hpp
        by_cases h4 : k = 4
        · cases hz : pow2 p
          · rw [legal_net hk hpp ⟨h4, hz⟩]
            rw [hz] at hP
            subst h4
            clear hk hp hpp hz hq
            go_enter Try.func18, Try.ntmps18
            go_wp2_with (first | (go_at_call 21; refine hO.mono ?_; rintro e w1 ⟨a, rfl, hi, hb⟩) | (go_at_call 22; refine (hP _).mono ?_; rintro e w2 ⟨rfl, hw⟩; replace hw := hw.symm; subst hw))
            go_ret
            exact ⟨rfl, hb⟩
          · rw [legal_ok hk hpp (fun e => by rw [hz] at e; cases e.2)]
            rw [hz] at hP
            subst h4
            clear hk hp hpp hz hq
            go_enter Try.func18, Try.ntmps18
            go_wp2_with (first | (go_at_call 21; refine hO.mono ?_; rintro e w1 ⟨a, rfl, hi, hb⟩) | (go_at_call 22; refine (hP _).mono ?_; rintro e w2 ⟨rfl, hw⟩; replace hw := hw.symm; subst hw))
            go_ret
            exact ⟨rfl, hb⟩
        · rw [legal_ok hk hpp (fun e => h4 e.1)]
          have h41 : (k == 4) = false := by simpa using h4
          clear hk hp hpp hq h4 hP
          go_enter Try.func18, Try.ntmps18
          go_wp2_with (go_at_call 21; refine hO.mono ?_; rintro e w1 ⟨a, rfl, hi, hb⟩)
          go_ret
          exact ⟨rfl, hb⟩
  · rw [legal_kind hk]
    have hn : l.length = 0 := hl.2 hk
    rw [hn] at hO
    clear hl hl2 hn hk
    go_enter Try.func18, Try.ntmps18
    go_wp2_with (go_at_call 21; refine hO.mono ?_; rintro e w1 ⟨a, rfl, hi, hb⟩)
    go_ret
    exact ⟨rfl, hb⟩

end Go.Proofs.Ytgkcbihpojkfaaa

namespace Go.Proofs.Ytgkcbihpojkfaaa
open Go.RowKit Go.Sort

theorem zeros (T E : TypeId) (n : Nat) (hn : n ≤ 1000) (hu : Try.prog.underlying T = some (.slice E)) (h : (Try.prog.info? E).map (fun i => (i.zero, i.size, i.bytes)) = some (some (.int .i64 0), 1, 8)) (w : World) :
    (Instr.makeSlice T (.int .i64 (n : Int)) (.int .i64 (n : Int))).run Try.prog w = .ok (.slice (some ⟨w.heap.size, 0, none⟩) n n) (w.alloc (.cells (List.replicate n (Value.int .i64 0)).toArray E)) := by
  obtain ⟨i, hi, he⟩ := Option.map_eq_some_iff.1 h
  simp only [Prod.mk.injEq] at he
  have hr := run_make (P := Try.prog) w T E i _ hu hi he.1 .i64 .i64 (n : Int) (n : Int) (by omega) (Int.le_refl _) (by rw [he.2.2]; omega) (by omega)
  rw [hr, he.2.1]
  simp only [Int.toNat_natCast, Nat.mul_one]
  congr 3
  apply Array.ext
  · simp [madeCells]
  · intro i h1 h2
    simp [madeCells, Value.cells, Nat.mod_one]
theorem zerosI (n : Nat) (hn : n ≤ 1000) (w : World) : (Instr.makeSlice 24 (.int .i64 (n : Int)) (.int .i64 (n : Int))).run Try.prog w = .ok (.slice (some ⟨w.heap.size, 0, none⟩) n n) (w.alloc (.cells (List.replicate n (Value.int .i64 0)).toArray 3)) :=
  zeros _ _ n hn Try.underlying24 (by kernel_rfl) w
theorem zerosL (n : Nat) (hn : n ≤ 1000) (w : World) : (Instr.makeSlice 37 (.int .i64 (n : Int)) (.int .i64 (n : Int))).run Try.prog w = .ok (.slice (some ⟨w.heap.size, 0, none⟩) n n) (w.alloc (.cells (List.replicate n (Value.int .i64 0)).toArray 2)) :=
  zeros _ _ n hn Try.underlying37 (by kernel_rfl) w
theorem vals_zero (n : Nat) : vals (List.replicate n 0) = List.replicate n (Value.int .i64 0) := by simp [vals]
theorem vals_set (l : List Nat) (i v : Nat) : (vals l).set i (.int .i64 (v : Int)) = vals (l.set i v) := by simp [vals, List.map_set]
/-- Numbers in a box. -/
theorem BoxAt.ns {w : World} {b : Nat} {l : List Nat} (h : BoxAt w b (vals l)) (S : Nat → Prop) (hS : ¬ S b) : NsAt w (some ⟨b, 0, none⟩) S l := fun i v hv =>
  ⟨b, 0, rfl, h.lt, hS, by rw [Nat.zero_add]; exact h.cell i _ (by simp [vals, hv])⟩
def upTo (k n : Nat) : List Nat := List.range k ++ List.replicate (n - k) 0
theorem upTo_len {k n : Nat} (h : k ≤ n) : (upTo k n).length = n := by simp [upTo]; omega
theorem upTo_set {k n : Nat} (h : k < n) : (upTo k n).set k k = upTo (k + 1) n := by
  apply List.ext_getElem?
  intro j
  unfold upTo
  rw [List.getElem?_set]
  by_cases e : k = j
  · subst e
    rw [if_pos rfl, if_pos (by simp; omega), List.getElem?_append_left (by simp), List.getElem?_range (by omega)]
  · rw [if_neg e]
    by_cases e2 : j < k
    · rw [List.getElem?_append_left (by simpa using e2), List.getElem?_append_left (by simp; omega), List.getElem?_range e2, List.getElem?_range (by omega)]
    · rw [List.getElem?_append_right (by simp; omega), List.getElem?_append_right (by simp; omega)]
      simp only [List.length_range, List.getElem?_replicate]
      by_cases e3 : j < n
      · rw [if_pos (by omega), if_pos (by omega)]
      · rw [if_neg (by omega), if_neg (by omega)]

/-- How a plan is answered. -/
def MakeEnd (d n : Nat) (w : World) (e : Ending) (w' : World) : Prop :=
  ∃ ga gc oa oc, e = .returned (.tuple #[.agg #[.int .i64 (n : Int), .slice ga (cg d) gc, .slice oa n oc], .int .i64 0]) ∧ SlAt 2 w' ga gc (cg d) (flatG (Wr.count d (List.range n)).1) ∧ NsAt w' oa (fun _ => False) (Wr.count d (List.range n)).2 ∧ Below w.heap.size w w'
theorem plan_start (w : World) (b : Nat) (wd : Int) (h : BoxAt w b [.int .i64 wd, .slice none 0 0, .slice none 0 0]) : PlanAt w b none 0 wd 0 none 0 0 [] :=
  ⟨h, SlAt.nil _ _, rfl, fun e => by obtain ⟨x, hx, _⟩ := e; cases hx⟩
theorem legal_pow {d n : Nat} (hd : d ≤ 4) (hn : n = 2 ^ d) : legal 4 (n : Int) = 0 ∧ 1 ≤ n ∧ n ≤ 16 := by
  have : d = 0 ∨ d = 1 ∨ d = 2 ∨ d = 3 ∨ d = 4 := by omega
  rcases this with rfl | rfl | rfl | rfl | rfl <;> subst hn <;> decide
theorem cg_le {d : Nat} (hd : d ≤ 4) : cg d ≤ 100 := by
  have : d = 0 ∨ d = 1 ∨ d = 2 ∨ d = 3 ∨ d = 4 := by omega
  rcases this with rfl | rfl | rfl | rfl | rfl <;> decide

/-- What holds between two rounds. -/
def MR (w : World) (n rb pb sb k : Nat) (wr : World) : Prop :=
  BoxAt wr rb [.int .i64 0, .slice none 0 0, .slice none 0 0] ∧ BoxAt wr pb [.int .i64 (n : Int), .slice none 0 0, .slice none 0 0] ∧ BoxAt wr sb (vals (upTo k n)) ∧ w.heap.size ≤ rb ∧ rb < pb ∧ pb < sb ∧ Below w.heap.size w wr

set_option maxRecDepth 20000 in
set_option maxHeartbeats 4000000 in
theorem make_ok (d n : Nat) (hd : d ≤ 4) (hn : n = 2 ^ d) (w : World) : Calls Try.prog 9 #[.int .i64 (n : Int)] w (MakeEnd d n w) := by
  obtain ⟨hl, hn1, hn16⟩ := legal_pow hd hn
  have hcg := cg_le hd
  have HN := hidq (And.intro hd (And.intro hn hcg))
  have hL := legal_any 4 (n : Int) (w.alloc (.cells #[.int .i64 0, .slice none 0 0, .slice none 0 0] 26))
  rw [hl] at hL
  have hB0 := BoxAt.new w [.int .i64 0, .slice none 0 0, .slice none 0 0] 26
  have hb0 : Below w.heap.size w (w.alloc (.cells #[.int .i64 0, .slice none 0 0, .slice none 0 0] 26)) := (Below.refl _ _).alloc (Nat.le_refl _) _
  have H0 := hidq (And.intro hB0 hb0)
  have hmk := zerosI n (by omega)
  clear hd hn hcg hl hB0 hb0
  go_enter Try.func9, Try.ntmps9
  go_wp2_with fail
  refine hL.mono ?_
  rintro e w1 ⟨rfl, hb1⟩
  clear hL
  obtain ⟨rb, hrb⟩ : ∃ rb, w.heap.size = rb := ⟨_, rfl⟩
  obtain ⟨hB0, hb0⟩ := H0.out
  have hB1 := hB0.below hb1
  have hb01 : Below w.heap.size w w1 := hb0.trans (hb1.mono (by simp))
  rw [hrb] at hB1
  obtain ⟨pb, hpb⟩ : ∃ pb, w1.heap.size = pb := ⟨_, rfl⟩
  have hlp : rb < pb := by have := hb1.size; simp at this; omega
  obtain ⟨W2, hW2⟩ : ∃ W2, w1.alloc (.cells #[.int .i64 (n : Int), .slice none 0 0, .slice none 0 0] 26) = W2 := ⟨_, rfl⟩
  have hB2 := BoxAt.new w1 [.int .i64 (n : Int), .slice none 0 0, .slice none 0 0] 26
  have hb12 : Below w1.heap.size w1 W2 := by rw [← hW2]; exact (Below.refl _ _).alloc (Nat.le_refl _) _
  rw [show w1.alloc (.cells [.int .i64 (n : Int), .slice none 0 0, .slice none 0 0].toArray 26) = W2 from hW2, hpb] at hB2
  have hs2 : W2.heap.size = pb + 1 := by rw [← hW2]; simp [hpb]
  obtain ⟨W3, hW3⟩ : ∃ W3, W2.alloc (.cells (List.replicate n (Value.int .i64 0)).toArray 3) = W3 := ⟨_, rfl⟩
  have hB3 := BoxAt.new W2 (List.replicate n (Value.int .i64 0)) 3
  rw [hW3, ← vals_zero, hs2] at hB3
  have hb23 : Below W2.heap.size W2 W3 := by rw [← hW3]; exact (Below.refl _ _).alloc (Nat.le_refl _) _
  have HR := hidq (show MR w n rb pb (pb + 1) 0 W3 from
    ⟨(hB1.below hb12).below hb23, hB2.below hb23, by simpa [upTo] using hB3, by omega, hlp, by omega, (hb01.trans (hb12.mono hb01.size)).trans (hb23.mono (by have := hb01.size; have := hb12.size; omega))⟩)
  have hW3' : W2.alloc (.cells (Array.replicate n (Value.int .i64 0)) 3) = W3 := by rw [← hW3, List.toArray_replicate]
  have HW := hidq (And.intro hW2 hW3')
  clear hB0 hb0 hB1 hb1 hB2 hb12 hB3 hb23 hb01 H0 hW3 hW3' hW2 hs2
  go_wp2_with fail
  rw [HW.out.1]
  rw [HW.out.2]
  clear HW hmk
  go_loopw [20] (fun s20 wr => ∃ k : Nat, s20 = .int .i64 (k : Int) ∧ k ≤ n ∧ Hid (MR w n rb pb (pb + 1) k wr)) (fun s20 _ => n - (intOf s20).toNat)
  case atStart => exact ⟨0, rfl, Nat.zero_le _, HR⟩
  case round =>
    obtain ⟨k, rfl, hk, hR⟩ := hrel
    clear HR
    by_cases hlt : k < n
    · have hltI : (k : Int) < (n : Int) := by omega
      obtain ⟨h1, h2, h3, h4, h5, h6, h7⟩ := hR.out
      obtain ⟨c1, z1⟩ := h3.get k (.int .i64 (((upTo k n)[k]'(by rw [upTo_len hk]; exact hlt) : Nat) : Int)) (by simp [vals, upTo_len hk, hlt])
      have HN2 := hidq (show MR w n rb pb (pb + 1) (k + 1) (wr.setCell ⟨pb + 1, k, none⟩ (.int .i64 (k : Int))) from by
        have hb : But (fun j => j = pb + 1) wr (wr.setCell ⟨pb + 1, k, none⟩ (.int .i64 (k : Int))) := (But.refl (fun j => j = pb + 1) wr).set1 _ _ rfl _
        refine ⟨h1.but hb (by omega), h2.but hb (by omega), ?_, h4, h5, h6, h7.setCell (by show w.heap.size ≤ pb + 1; omega) _⟩
        have := h3.set k (.int .i64 (k : Int))
        rw [vals_set, upTo_set hlt] at this
        exact this)
      clear h1 h2 h3 h4 h5 h6 h7 hR
      go_wp2_with fail
      go_roundw
      case rel => exact ⟨k + 1, by go_num, by omega, HN2⟩
      case measure => simp [intOf]; omega
    · have hd : decide ((k : Int) < (n : Int)) = false := decide_eq_false (by omega)
      have hd2 : decide (k < n) = false := decide_eq_false (by omega)
      have hkn : k = n := by omega
      have hR2 := hR.out
      rw [hkn] at hR2
      obtain ⟨h1, h2, h3, h4, h5, h6, h7⟩ := hR2
      have e0 : upTo n n = List.range n := by simp [upTo]
      rw [e0] at h3
      have k1 := count_any d wr pb none 0 (n : Int) 0 none 0 0 [] (pb + 1) 0 n n (List.range n) (plan_start _ _ _ h2) (h3.ns _ (fun e => e.elim (fun e => by omega) (fun ⟨x, hx, _⟩ => by cases hx))) (by simp) HN.out.2.1 (by omega) (Nat.le_refl _) (by omega) (by have := HN.out.2.2; omega)
      have H1 := hidq (And.intro h1 (And.intro h4 (And.intro h5 (And.intro h6 h7))))
      clear h1 h2 h3 h4 h5 h6 h7 hR hkn e0
      go_wp2_with fail
      refine k1.mono ?_
      rintro e w4 ⟨ga, gc, ra, rc, n', rfl, hn', hP, hE, hR4, hQ4⟩
      clear k1
      have hlen : (List.range n).length = 2 ^ d := by rw [List.length_range]; exact HN.out.2.1
      obtain rfl : n' = n := by rw [← hn', Wr.count_length d _ hlen]; exact HN.out.2.1.symm
      have hcgl := count_gates d _ hlen
      rw [Nat.zero_add, hcgl, List.nil_append] at hP
      obtain ⟨h1, h4, h5, h6, h7⟩ := H1.out
      have hps : ∀ j, pset pb none j → j = pb := by
        rintro j (h | ⟨x, hx, _⟩)
        · exact h
        · cases hx
      have hB1 := h1.but hE.1 (fun e => by have := hps _ e; omega)
      have hb4 : Below w.heap.size w w4 := h7.trans (hE.1.below h7.size (fun j hj => by have := hps _ hj; omega))
      obtain ⟨c0, z0⟩ := hP.box.get 0 _ rfl
      obtain ⟨c1, z1⟩ := hP.box.get 1 _ rfl
      obtain ⟨c2, z2⟩ := hP.box.get 2 _ rfl
      obtain ⟨d0, y0⟩ := hB1.get 0 _ rfl
      obtain ⟨d1, y1⟩ := hB1.get 1 _ rfl
      obtain ⟨d2, y2⟩ := hB1.get 2 _ rfl
      have HK := hidq (And.intro hP (And.intro hE (And.intro hR4 (And.intro hQ4 (And.intro hB1 hb4)))))
      clear hP hE hR4 hQ4 hB1 hb4 h1 h4 h7 hcgl hlen hn'
      have hne : ¬ rb = pb := by omega
      go_wp2_with fail
      obtain ⟨W, hW⟩ : ∃ W, (((w4.setCell ⟨pb, 2, none⟩ (.slice ra n' rc)).setCell ⟨rb, 0, none⟩ (.int .i64 (n' : Int))).setCell ⟨rb, 1, none⟩ (.slice ga (cg d) gc)).setCell ⟨rb, 2, none⟩ (.slice ra n' rc) = W := ⟨_, rfl⟩
      rw [hW]
      obtain ⟨hP, hE, hR4, hQ4, hB1, hb4⟩ := HK.out
      have hrl : rb < wr.heap.size := H1.out.1.lt
      have hb5 : But (fun j => j = pb) w4 (w4.setCell ⟨pb, 2, none⟩ (.slice ra n' rc)) := (But.refl (fun j => j = pb) w4).set1 _ _ rfl _
      have hB5 := (((hB1.but hb5 (by omega)).set 0 (.int .i64 (n' : Int))).set 1 (.slice ga (cg d) gc)).set 2 (.slice ra n' rc)
      have hbW : But (fun j => j = pb ∨ j = rb) w4 W := by
        rw [← hW]
        exact ((((But.refl (fun j => j = pb ∨ j = rb) w4).set1 pb 2 (.inl rfl) _).set1 rb 0 (.inr rfl) _).set1 rb 1 (.inr rfl) _).set1 rb 2 (.inr rfl) _
      rw [hW] at hB5
      have hEnd : MakeEnd d n' w (.returned (.tuple #[.agg #[.int .i64 (n' : Int), .slice ga (cg d) gc, .slice ra n' rc], .int .i64 0])) W := by
        have hs4 := hb4.size
        refine ⟨ga, gc, ra, rc, rfl, hP.sl.but hbW ?_, ?_, ?_⟩
        · intro j hj e
          rcases e with e | e
          · subst e; exact hP.ne hj
          · subst e
            rcases hE.2 _ (.inr hj) with h | h
            · have := hps _ h; omega
            · omega
        · intro i v hv
          obtain ⟨b, off, e1, e2, e3, e4⟩ := hR4 i v hv
          have hnb : ¬ (b = pb ∨ b = rb) := fun e => by
            rcases e with e | e
            · exact e3 (.inl e)
            · rcases hQ4 b ⟨_, e1, rfl⟩ with ⟨x, hx, hx2⟩ | h
              · cases hx; simp at hx2; omega
              · omega
          exact ⟨b, off, e1, Nat.lt_of_lt_of_le e2 hbW.size, id, by rw [hbW.cell (p := ⟨b, off + i, none⟩) e2 hnb]; exact e4⟩
        · exact hb4.trans (hbW.below hs4 (fun j hj => by rcases hj with h | h <;> omega))
      have q0 := (hB5.get 0 _ rfl).1
      have q1 := (hB5.get 1 _ rfl).1
      have q2 := (hB5.get 2 _ rfl).1
      have HEnd := hidq hEnd
      clear hB5 hbW hb5 hB1 hP hE hR4 hQ4 hb4 hW HK hEnd hrl c0 c1 c2 z0 z1 z2 d0 d1 d2 y0 y1 y2
      exact bodyPost_ret (v := .tuple #[.agg #[.int .i64 (n' : Int), .slice ga (cg d) gc, .slice ra n' rc], .int .i64 0]) (by simp [results, Try.results9, go_sem, q0, q1, q2]) rfl HEnd.out
end Go.Proofs.Ytgkcbihpojkfaaa

namespace Go.Proofs.Ytgkcbihpojkfaaa
open Go.RowKit Go.Sort

theorem E_eq (k n i : Nat) (hi : i < k) : Wr.E k n i = n / k + (if i < n % k then 1 else 0) := by
  have hk : 0 < k := by omega
  have hr : n % k < k := Nat.mod_lt _ hk
  have hn : n = k * (n / k) + n % k := (Nat.div_add_mod n k).symm
  generalize n / k = q at hn ⊢
  generalize n % k = r at hn hr ⊢
  unfold Wr.E
  subst hn
  rw [show k * q + r + (k - 1 - i) = k * q + (r + (k - 1 - i)) by omega, Nat.mul_add_div hk]
  congr 1
  split
  · rw [Nat.div_eq_iff (by omega)]; omega
  · exact Nat.div_eq_of_lt (by omega)
def evens (p n : Nat) : List Nat := (List.range p).map (Wr.E p n)
theorem evens_get {p n i : Nat} (h : i < p) : (evens p n)[i]? = some (Wr.E p n i) := by simp [evens, h]
theorem evens_len (p n : Nat) : (evens p n).length = p := by simp [evens]
def evTo (k p n : Nat) : List Nat := (evens p n).take k ++ List.replicate (p - k) 0
theorem evTo_len {k p n : Nat} (h : k ≤ p) : (evTo k p n).length = p := by simp [evTo, evens_len]; omega
theorem evTo_get {k p n : Nat} (h : k < p) : (evTo k p n)[k]? = some 0 := by
  unfold evTo
  have l1 : ((evens p n).take k).length = k := by simp [evens_len]; omega
  rw [List.getElem?_append_right (by omega), l1, List.getElem?_replicate, if_pos (by omega)]
theorem evTo_set {k p n : Nat} (h : k < p) : (evTo k p n).set k (Wr.E p n k) = evTo (k + 1) p n := by
  apply List.ext_getElem?
  intro j
  unfold evTo
  rw [List.getElem?_set]
  have l1 : ((evens p n).take k).length = k := by simp [evens_len]; omega
  have l2 : ((evens p n).take (k + 1)).length = k + 1 := by simp [evens_len]; omega
  by_cases e : k = j
  · subst e
    rw [if_pos rfl, if_pos (by simp [evens_len]; omega), List.getElem?_append_left (by omega), List.getElem?_take, if_pos (by omega), evens_get h]
  · rw [if_neg e]
    by_cases e2 : j < k
    · rw [List.getElem?_append_left (by omega), List.getElem?_append_left (by omega), List.getElem?_take, List.getElem?_take, if_pos e2, if_pos (by omega)]
    · rw [List.getElem?_append_right (by omega), List.getElem?_append_right (by omega), l1, l2]
      simp only [List.getElem?_replicate]
      by_cases e3 : j < p
      · rw [if_pos (by omega), if_pos (by omega)]
      · rw [if_neg (by omega), if_neg (by omega)]

set_option maxRecDepth 20000 in
set_option maxHeartbeats 4000000 in
theorem even_no (n p : Int) (w : World) (hp : p < 1) : Calls Try.prog 15 #[.int .i64 n, .int .i64 p] w fun e w' => e = .returned (.slice none 0 0) ∧ w' = w := by
  go_enter Try.func15, Try.ntmps15
  go_wp2_with fail
  go_ret
  exact ⟨rfl, rfl⟩

/-- How it ends. -/
def EvenEnd (p n : Nat) (w : World) (e : Ending) (w' : World) : Prop := ∃ b, e = .returned (.slice (some ⟨b, 0, none⟩) p p) ∧ BoxAt w' b (vals (evens p n)) ∧ w.heap.size ≤ b ∧ Below w.heap.size w w'

set_option maxRecDepth 20000 in
set_option maxHeartbeats 4000000 in
theorem even_any (n p : Nat) (w : World) (hp : 1 ≤ p) (hp2 : p ≤ 64) (hn : n ≤ 281474976710656) : Calls Try.prog 15 #[.int .i64 (n : Int), .int .i64 (p : Int)] w (EvenEnd p n w) := by
  have hmk := zerosL p (by omega)
  have hp1 : decide ((p : Int) < 1) = false := decide_eq_false (by omega)
  have hp0 : ((p : Int) == 0) = false := by simp; omega
  have hpI : 1 ≤ (p : Int) := by omega
  have hnI : (n : Int) ≤ 281474976710656 := by omega
  go_enter Try.func15, Try.ntmps15
  go_wp2_with fail
  go_quiet (fail)
  go_wp2_with fail
  obtain ⟨q, hq⟩ : ∃ q, n / p = q := ⟨_, rfl⟩
  obtain ⟨r, hr⟩ : ∃ r, n % p = r := ⟨_, rfl⟩
  have hqb : q ≤ 281474976710656 := by rw [← hq]; exact Nat.le_trans (Nat.div_le_self _ _) hn
  have eq1 : wrap64 ((n : Int) / (p : Int)) = (q : Int) := by
    rw [← hq]
    have : ((n : Int) / (p : Int)) = ((n / p : Nat) : Int) := by simp
    rw [this, hq]
    unfold wrap64
    omega
  have er1 : (n : Int) % (p : Int) = (r : Int) := by rw [← hr]; simp
  rw [eq1, er1]
  have hr64 : r < p := by rw [← hr]; exact Nat.mod_lt _ (by omega)
  have HE := hidq (fun k (hk : k < p) => (show Wr.E p n k = q + (if k < r then 1 else 0) from by rw [E_eq p n k hk, hq, hr]))
  obtain ⟨W0, hW0⟩ : ∃ W0, (w.alloc (.cells (Array.replicate p (Value.int .i64 0)) 2)).drewN nq = W0 := ⟨_, rfl⟩
  obtain ⟨b, hb⟩ : ∃ b, w.heap.size = b := ⟨_, rfl⟩
  have hB0 : BoxAt W0 b (vals (evTo 0 p n)) := by
    have := (BoxAt.new w (List.replicate p (Value.int .i64 0)) 2).drewN nq
    rw [List.toArray_replicate, hW0, ← vals_zero, hb] at this
    simpa [evTo] using this
  have hbel : Below w.heap.size w W0 := by rw [← hW0]; exact below_drewN ((Below.refl _ _).alloc (Nat.le_refl _) _) nq
  rw [hW0, hb]
  have HR := hidq (And.intro hB0 hbel)
  clear eq1 er1 hW0 hB0 hbel hmk hq hr hp0
  go_loopw [21] (fun s21 wr => ∃ k : Nat, s21 = .int .i64 (k : Int) ∧ k ≤ p ∧ Hid (BoxAt wr b (vals (evTo k p n)) ∧ Below w.heap.size w wr)) (fun s21 _ => p - (intOf s21).toNat)
  case atStart => exact ⟨0, rfl, Nat.zero_le _, HR⟩
  case round =>
    obtain ⟨k, rfl, hk, hR⟩ := hrel
    clear HR
    by_cases hlt : k < p
    · have hltI : (k : Int) < (p : Int) := by omega
      obtain ⟨h1, h2⟩ := hR.out
      obtain ⟨c1, z1⟩ := h1.get k (.int .i64 ((0 : Nat) : Int)) (by simp [vals, evTo_get hlt])
      have hE := HE.out k hlt
      have hset := fun v : Int => (World.cell?_setCell_same' wr ⟨b, k, none⟩ (.int .i64 v) (by rw [c1]; rfl))
      by_cases hkr : k < r
      · rw [if_pos hkr] at hE
        have hkrI : (k : Int) < (r : Int) := by omega
        have HN2 := hidq (show BoxAt ((wr.setCell ⟨b, k, none⟩ (.int .i64 (q : Int))).setCell ⟨b, k, none⟩ (.int .i64 ((q : Int) + 1))) b (vals (evTo (k + 1) p n)) ∧ Below w.heap.size w ((wr.setCell ⟨b, k, none⟩ (.int .i64 (q : Int))).setCell ⟨b, k, none⟩ (.int .i64 ((q : Int) + 1))) from by
          refine ⟨?_, (h2.setCell (by show w.heap.size ≤ b; omega) _).setCell (by show w.heap.size ≤ b; omega) _⟩
          have := (h1.set k (.int .i64 (q : Int))).set k (.int .i64 ((q + 1 : Nat) : Int))
          rw [vals_set, vals_set, List.set_set, ← hE, evTo_set hlt, hE] at this
          exact this)
        clear h1 h2 hR hE
        go_wp2_with fail
        go_roundw
        case rel => exact ⟨k + 1, by go_num, by omega, HN2⟩
        case measure => simp [intOf]; omega
      · rw [if_neg hkr] at hE
        have hkrI : decide ((k : Int) < (r : Int)) = false := decide_eq_false (by omega)
        have hkrN : decide (k < r) = false := decide_eq_false (by omega)
        have HN2 := hidq (show BoxAt (wr.setCell ⟨b, k, none⟩ (.int .i64 (q : Int))) b (vals (evTo (k + 1) p n)) ∧ Below w.heap.size w (wr.setCell ⟨b, k, none⟩ (.int .i64 (q : Int))) from by
          refine ⟨?_, h2.setCell (by show w.heap.size ≤ b; omega) _⟩
          have := h1.set k (.int .i64 (q : Int))
          rw [vals_set, show q = Wr.E p n k by omega, evTo_set hlt] at this
          rw [show q = Wr.E p n k by omega]
          exact this)
        clear h1 h2 hR hE
        go_wp2_with fail
        go_roundw
        case rel => exact ⟨k + 1, by go_num, by omega, HN2⟩
        case measure => simp [intOf]; omega
    · have hd : decide ((k : Int) < (p : Int)) = false := decide_eq_false (by omega)
      have hd2 : decide (k < p) = false := decide_eq_false (by omega)
      have hkp : k = p := by omega
      obtain ⟨h1, h2⟩ := hR.out
      rw [hkp] at h1
      have e0 : evTo p p n = evens p n := by unfold evTo; rw [List.take_of_length_le (by rw [evens_len]; omega)]; simp
      rw [e0] at h1
      have HN := hidq (show EvenEnd p n w (.returned (.slice (some ⟨b, 0, none⟩) p p)) wr from ⟨b, rfl, h1, by omega, h2⟩)
      clear h1 h2 hR e0 hkp
      go_wp2_with fail
      go_ret
      exact HN
end Go.Proofs.Ytgkcbihpojkfaaa

namespace Go.Proofs.Ytgkcbihpojkfaaa
open Go.RowKit Go.Sort

theorem but_alloc_cell {w w' : World} (h : Below w.heap.size w w') (b i : Nat) (hb : b < w.heap.size) : w'.cell? ⟨b, i, none⟩ = w.cell? ⟨b, i, none⟩ := h.cell (p := ⟨b, i, none⟩) hb

set_option maxRecDepth 20000 in
set_option maxHeartbeats 4000000 in
theorem awake10_any (w : World) : Calls Try.prog 8 #[] w fun e w' => e = .returned (.bool true) ∧ Below w.heap.size w w' := by
  have hM : Calls Try.prog 9 #[.int .i64 2] w (MakeEnd 1 2 w) := make_ok 1 2 (by decide) rfl w
  have hE : ∀ W, Calls Try.prog 15 #[.int .i64 7, .int .i64 4] W (EvenEnd 4 7 W) := fun W => even_any 7 4 W (by decide) (by decide) (by decide)
  go_enter Try.func8, Try.ntmps8
  go_wp2_with fail
  refine hM.mono ?_
  rintro e w1 ⟨ga, gc, oa, oc, rfl, hS, hN, hb1⟩
  clear hM
  have e1 : (cg 1) = 1 := rfl
  have e2 : flatG (Wr.count 1 (List.range 2)).1 = [.int .i64 0, .int .i64 1] := rfl
  rw [e1, e2] at hS
  obtain ⟨g, rfl, hgl, hc0⟩ := hS.cell (t := 0) (u := .int .i64 0) rfl
  obtain ⟨g', hg', _, hc1⟩ := hS.cell (t := 1) (u := .int .i64 1) rfl
  cases hg'
  rw [e1]
  obtain ⟨W, hW⟩ : ∃ W, w1.alloc (.cells #[.int .i64 2, .slice (some ⟨g, 0, none⟩) 1 gc, .slice oa 2 oc] 26) = W := ⟨_, rfl⟩
  have hb2 : Below w1.heap.size w1 W := by rw [← hW]; exact (Below.refl _ _).alloc (Nat.le_refl _) _
  have hB := BoxAt.new w1 [.int .i64 2, .slice (some ⟨g, 0, none⟩) 1 gc, .slice oa 2 oc] 26
  rw [show w1.alloc (.cells [.int .i64 2, .slice (some ⟨g, 0, none⟩) 1 gc, .slice oa 2 oc].toArray 26) = W from hW] at hB
  have HW := hidq hW
  have H1 := hidq (And.intro hb1 (And.intro hb2 (And.intro hB (And.intro hgl (And.intro hc0 hc1)))))
  clear hS hN hb1 hb2 hB hgl hc0 hc1 hW e1 e2
  go_wp2_with fail
  rw [show w1.alloc (.cells #[.int .i64 2, .slice (some ⟨g, 0, none⟩) 1 gc, .slice oa 2 oc] 26) = W from HW.out]
  refine (hE W).mono ?_
  rintro e w3 ⟨b, rfl, hB3, _, hb3⟩
  obtain ⟨hb1, hb2, hB, hgl, hc0, hc1⟩ := H1.out
  have hB' := hB.below hb3
  have f0 := (hB3.get 0 (.int .i64 2) rfl).1
  have f2 := (hB3.get 2 (.int .i64 2) rfl).1
  have f3 := (hB3.get 3 (.int .i64 1) rfl).1
  have p1 := (hB'.get 1 _ rfl).1
  have hb13 : Below w1.heap.size w1 w3 := hb2.trans (hb3.mono hb2.size)
  have q0 : w3.cell? ⟨g, 0, none⟩ = some (.int .i64 0) := by rw [but_alloc_cell hb13 _ _ hgl]; exact hc0
  have q1 : w3.cell? ⟨g, 1, none⟩ = some (.int .i64 1) := by rw [but_alloc_cell hb13 _ _ hgl]; exact hc1
  have hF : Below w.heap.size w w3 := hb1.trans (hb13.mono hb1.size)
  have HF := hidq hF
  clear hF hb13 hB' hB hb1 hb2 hb3 hB3 hgl hc0 hc1 H1 HW hE
  go_wp2_with fail
  go_ret
  exact ⟨rfl, HF.out⟩
end Go.Proofs.Ytgkcbihpojkfaaa

namespace Go.Proofs.Ytgkcbihpojkfaaa
open Go.RowKit Go.Sort

theorem i64_and8 (n : Int) : bits .and .i64 n 255 = n % 256 := by
  have h63 : (BitVec.ofInt 64 255).toNat = 2 ^ 8 - 1 := by decide
  have key : (BitVec.ofInt 64 n &&& BitVec.ofInt 64 255).toNat = (n % ((2 ^ 64 : Nat) : Int)).toNat % 2 ^ 8 := by
    rw [BitVec.toNat_and, BitVec.toNat_ofInt, h63, Nat.and_two_pow_sub_one_eq_mod]
  show IntKind.i64.wrap ((BitVec.ofInt 64 n &&& BitVec.ofInt 64 255).toNat : Nat) = n % 256
  rw [key, IntKind.wrap_i64]
  omega
/-- The width that a number says, as a power of two. -/
def dOf (n : Int) : Nat := (n % 256 % 5).toNat
theorem dOf_le (n : Int) : dOf n ≤ 4 := by unfold dOf; omega
theorem dOf_eq (n : Int) : n % 256 % 5 = (dOf n : Int) := by unfold dOf; omega
theorem width_any (n : Int) (w : World) : Calls Try.prog 12 #[.int .i64 n] w fun e w' => e = .returned (.int .i64 ((2 ^ dOf n : Nat) : Int)) ∧ w' = w := by
  have hand := i64_and8 n
  have hm0 : 0 ≤ n % 256 := by omega
  have hm1 : n % 256 ≤ 255 := by omega
  have hd := dOf_le n
  have hde := dOf_eq n
  generalize n % 256 = m at *
  have h5 : dOf n = 0 ∨ dOf n = 1 ∨ dOf n = 2 ∨ dOf n = 3 ∨ dOf n = 4 := by omega
  rcases h5 with h | h | h | h | h <;> rw [h] <;> rw [h] at hde <;> clear h hd
  all_goals
    go_enter Try.func12, Try.ntmps12
    go_wp2_with fail
    go_ret
    exact ⟨rfl, rfl⟩

/-- What holds of the five plans. -/
theorem plan_facts (d : Nat) (hd : d ≤ 4) : (∀ g ∈ (Wr.count d (List.range (2 ^ d))).1, g.1 ≠ g.2 ∧ g.1 < 2 ^ d ∧ g.2 < 2 ^ d) ∧ (Wr.count d (List.range (2 ^ d))).2.Nodup ∧ (∀ a ∈ (Wr.count d (List.range (2 ^ d))).2, a < 2 ^ d) ∧ 2 * cg d = 2 ^ d * d * (d + 1) / 2 := by
  have h5 : d = 0 ∨ d = 1 ∨ d = 2 ∨ d = 3 ∨ d = 4 := by omega
  rcases h5 with rfl | rfl | rfl | rfl | rfl <;> decide +kernel
end Go.Proofs.Ytgkcbihpojkfaaa

namespace Go.Proofs.Ytgkcbihpojkfaaa
open Go.RowKit Go.Sort

theorem flatG_get : ∀ (G : List (Nat × Nat)) (i : Nat) (g : Nat × Nat), G[i]? = some g → (flatG G)[i * 2]? = some (.int .i64 (g.1 : Int)) ∧ (flatG G)[i * 2 + 1]? = some (.int .i64 (g.2 : Int))
  | [], i, g, h => by simp at h
  | x :: G, 0, g, h => by simp at h; subst h; exact ⟨rfl, rfl⟩
  | x :: G, i + 1, g, h => by
    have := flatG_get G i g (by simpa using h)
    have e : flatG (x :: G) = .int .i64 (x.1 : Int) :: .int .i64 (x.2 : Int) :: flatG G := rfl
    rw [e, show (i + 1) * 2 = i * 2 + 1 + 1 by omega]
    exact this
/-- How often each wire came. -/
def seenL (n : Nat) (l : List Nat) : List Nat := (List.range n).map (fun j => if j ∈ l then 1 else 0)
theorem seenL_get {n j : Nat} (l : List Nat) (h : j < n) : (seenL n l)[j]? = some (if j ∈ l then 1 else 0) := by simp [seenL, h]
theorem seenL_set {n a : Nat} {l : List Nat} (h : a < n) : (seenL n l).set a 1 = seenL n (l ++ [a]) := by
  apply List.ext_getElem?
  intro j
  rw [List.getElem?_set]
  by_cases hj : j < n
  · rw [seenL_get _ hj, seenL_get _ hj]
    by_cases e : a = j
    · subst e
      rw [if_pos rfl, if_pos (by simp [seenL]; exact h), if_pos (by simp)]
    · rw [if_neg e]
      have : j ∈ l ++ [a] ↔ j ∈ l := by simp [Ne.symm e]
      simp only [this]
  · have h1 : (seenL n (l ++ [a]))[j]? = none := by simp [seenL]; omega
    have h2 : (seenL n l)[j]? = none := by simp [seenL]; omega
    rw [h1, h2]
    split
    · split
      · rename_i h3 h4; simp [seenL] at h4; omega
      · rfl
    · rfl

set_option maxRecDepth 20000 in
set_option maxHeartbeats 8000000 in
theorem wireWires_any (n0 : Int) (w : World) : Calls Try.prog 7 #[.int .i64 n0] w fun e w' => e = .returned (.bool true) ∧ Below w.heap.size w w' := by
  have hA := awake10_any w
  have hand := i64_and8 n0
  have hm0 : 0 ≤ n0 % 256 := by omega
  have hm1 : n0 % 256 ≤ 255 := by omega
  have hde := dOf_eq n0
  have hd := dOf_le n0
  have hWd := width_any n0
  obtain ⟨pf1, pf2, pf3, pf4⟩ := plan_facts (dOf n0) hd
  have hMk := make_ok (dOf n0) (2 ^ dOf n0) hd rfl
  have hcgl := count_gates (dOf n0) (List.range (2 ^ dOf n0)) (by simp)
  have houl := Wr.count_length (dOf n0) (List.range (2 ^ dOf n0)) (by simp)
  have hn16 := (legal_pow hd rfl).2
  have hcg := cg_le hd
  generalize dOf n0 = d at *
  generalize hP : Wr.count d (List.range (2 ^ d)) = P at *
  generalize hn : 2 ^ d = n at *
  generalize n0 % 256 = m at *
  obtain ⟨c, hc⟩ : ∃ c, cg d = c := ⟨_, rfl⟩
  have H0 := hidq (And.intro pf1 (And.intro pf2 (And.intro pf3 (And.intro pf4 (And.intro hcgl houl)))))
  have HMk := hidq hMk
  have HPc := hidq (And.intro hP hc)
  have hcc : c ≤ 100 := by omega
  have HD := hidq (And.intro hd (And.intro hn hcg))
  clear pf1 pf2 pf3 pf4 hMk hcgl houl hP hd hn hcg hc
  go_enter Try.func7, Try.ntmps7
  go_wp2_with fail
  refine hA.mono ?_
  rintro e w1 ⟨rfl, hb1⟩
  clear hA
  go_wp2_with fail
  refine (hWd _).mono ?_
  rintro e w2 ⟨rfl, hw2⟩
  subst w2
  go_wp2_with fail
  refine (HMk.out _).mono ?_
  rintro e w3 ⟨ga, gc, oa, oc, rfl, hS, hN, hb3⟩
  rw [HPc.out.1] at hS hN
  rw [HPc.out.2] at hS ⊢
  obtain ⟨pb, hpb⟩ : ∃ pb, w3.heap.size = pb := ⟨_, rfl⟩
  obtain ⟨W, hW⟩ : ∃ W, w3.alloc (.cells #[.int .i64 (n : Int), .slice ga c gc, .slice oa n oc] 26) = W := ⟨_, rfl⟩
  have hb4 : Below w3.heap.size w3 W := by rw [← hW]; exact (Below.refl _ _).alloc (Nat.le_refl _) _
  have hB := BoxAt.new w3 [.int .i64 (n : Int), .slice ga c gc, .slice oa n oc] 26
  rw [show w3.alloc (.cells [.int .i64 (n : Int), .slice ga c gc, .slice oa n oc].toArray 26) = W from hW, hpb] at hB
  have hF : Below w.heap.size w W := (hb1.trans (hb3.mono hb1.size)).trans (hb4.mono (by have := hb1.size; have := hb3.size; omega))
  have HW := hidq hW
  have H1 := hidq (And.intro hF (And.intro hB (And.intro (hS.below hb4) (hN.below hb4))))
  clear hb1 hb3 hb4 hB hF hS hN hW HMk hWd
  go_wp2_with fail
  rw [show w3.alloc (.cells #[.int .i64 (n : Int), .slice ga c gc, .slice oa n oc] 26) = W from HW.out]
  clear HW
  have hgr : ∀ W', Below W.heap.size W W' → True := fun _ _ => trivial
  clear hgr
  go_loopw [26] (fun s26 wr => ∃ k : Nat, s26 = .int .i64 (k : Int) ∧ k ≤ c ∧ Hid (Below W.heap.size W wr)) (fun s26 _ => c - (intOf s26).toNat)
  case atStart => exact ⟨0, rfl, Nat.zero_le _, hidq (Below.refl _ _)⟩
  case round =>
    obtain ⟨k, rfl, hk, hR⟩ := hrel
    by_cases hlt : k < c
    · have hltI : (k : Int) < (c : Int) := by omega
      obtain ⟨g, hg⟩ : ∃ g, P.1[k]? = some g := ⟨_, List.getElem?_eq_getElem (by rw [H0.out.2.2.2.2.1, HPc.out.2]; exact hlt)⟩
      obtain ⟨hg1, hg2, hg3⟩ := H0.out.1 g (List.mem_of_getElem? hg)
      obtain ⟨f1, f2⟩ := flatG_get _ _ _ hg
      have hSr := H1.out.2.2.1.below hR.out
      obtain ⟨gb, rfl, hgl, q1⟩ := hSr.cell f1
      obtain ⟨gb', hgb', _, q2⟩ := hSr.cell f2
      cases hgb'
      obtain ⟨a, b⟩ := g
      dsimp only at *
      have HB := hidq hR.out
      have hab : ((a : Int) == (b : Int)) = false := by simp; omega
      have hab2 : (a == b) = false := by simpa using hg1
      have ha : decide ((n : Int) ≤ (a : Int)) = false := decide_eq_false (by omega)
      have hb : decide ((n : Int) ≤ (b : Int)) = false := decide_eq_false (by omega)
      have ha2 : decide (n ≤ a) = false := decide_eq_false (by omega)
      have hb2 : decide (n ≤ b) = false := decide_eq_false (by omega)
      clear hSr hg hg1 hg2 hg3 f1 f2 hR
      go_wp2_with fail
      go_roundw
      case rel => exact ⟨k + 1, by go_num, by omega, hidq (HB.out.trans ((Below.refl _ _).alloc (by have := HB.out.size; omega) _))⟩
      case measure => simp [intOf]; omega
    · have hd : decide ((k : Int) < (c : Int)) = false := decide_eq_false (by omega)
      have hd2 : decide (k < c) = false := decide_eq_false (by omega)
      have hB := (H1.out.2.1.below hR.out)
      have p1 := (hB.get 1 _ rfl).1
      have p2 := (hB.get 2 _ rfl).1
      have hmk := zerosI n (by omega)
      have HB := hidq hR.out
      have hpl : pb < wr.heap.size := hB.lt
      clear hB hR
      go_wp2_with fail
      obtain ⟨sb, hsb⟩ : ∃ sb, wr.heap.size = sb := ⟨_, rfl⟩
      obtain ⟨V, hV⟩ : ∃ V, wr.alloc (.cells (Array.replicate n (Value.int .i64 0)) 3) = V := ⟨_, rfl⟩
      have hBV := BoxAt.new wr (List.replicate n (Value.int .i64 0)) 3
      rw [List.toArray_replicate, hV, hsb] at hBV
      have hbV : Below wr.heap.size wr V := by rw [← hV]; exact (Below.refl _ _).alloc (Nat.le_refl _) _
      have hs0 : List.replicate n (Value.int .i64 0) = vals (seenL n (P.2.take 0)) := by
        rw [← vals_zero]
        congr 1
        apply List.ext_getElem?
        intro j
        by_cases hj : j < n
        · rw [seenL_get _ hj, List.getElem?_replicate, if_pos hj]; simp
        · have h1 : (seenL n (P.2.take 0))[j]? = none := by simp [seenL]; omega
          rw [h1, List.getElem?_replicate, if_neg hj]
      rw [hs0] at hBV
      have hNV : NsAt V oa (fun j => j = sb) P.2 := (H1.out.2.2.2.below HB.out).but (But.of_below hbV) (fun j e => .inr (by omega))
      have hFV : Below w.heap.size w V := (H1.out.1.trans (HB.out.mono H1.out.1.size)).trans (hbV.mono (by have := H1.out.1.size; have := HB.out.size; omega))
      have hPV := (H1.out.2.1.below HB.out).below hbV
      rw [hV, hsb]
      have H2 := hidq (And.intro hNV (And.intro hFV hPV))
      have hwsb : w.heap.size ≤ sb := by have := H1.out.1.size; have := HB.out.size; omega
      have HR := hidq (And.intro hBV (But.refl (fun j => j = sb) V))
      have hpsb : pb < sb := by omega
      clear hBV hbV hs0 hNV hFV hPV hV hmk HB hd hd2 hlt p1 p2
      go_loopw [63] (fun s63 wq => ∃ k : Nat, s63 = .int .i64 (k : Int) ∧ k ≤ n ∧ Hid (BoxAt wq sb (vals (seenL n (P.2.take k))) ∧ But (fun j => j = sb) V wq)) (fun s63 _ => n - (intOf s63).toNat)
      case atStart => exact ⟨0, rfl, Nat.zero_le _, HR⟩
      case round =>
        obtain ⟨i, rfl, hi, hR⟩ := hrel
        clear HR
        by_cases hlt : i < n
        · have hltI : (i : Int) < (n : Int) := by omega
          obtain ⟨a, ha⟩ : ∃ a, P.2[i]? = some a := ⟨_, List.getElem?_eq_getElem (by rw [H0.out.2.2.2.2.2]; exact hlt)⟩
          have han := H0.out.2.2.1 a (List.mem_of_getElem? ha)
          obtain ⟨ob, oo, rfl, hol, hoS, hoc⟩ := (H2.out.1.but hR.out.2 (fun _ e => .inl e)) i a ha
          have hnm : a ∉ P.2.take i := fun hm => by
            obtain ⟨j, hj, he⟩ := List.getElem_of_mem hm
            have hj2 : j < i := by simp at hj; omega
            have h1 : P.2[j]? = some a := by rw [← he, List.getElem_take, List.getElem?_eq_getElem]
            have h2 := (List.getElem?_inj (List.getElem?_eq_some_iff.1 h1).1 H0.out.2.1).1 (h1.trans ha.symm)
            omega
          have hget := seenL_get (P.2.take i) han
          rw [if_neg hnm] at hget
          obtain ⟨q1, z1⟩ := hR.out.1.get a (.int .i64 ((0 : Nat) : Int)) (by simp [vals, hget])
          have hset := (World.cell?_setCell_same' wr ⟨sb, a, none⟩ (.int .i64 1) (by rw [q1]; rfl))
          have HN2 := hidq (show BoxAt (wr.setCell ⟨sb, a, none⟩ (.int .i64 1)) sb (vals (seenL n (P.2.take (i + 1)))) ∧ But (fun j => j = sb) V (wr.setCell ⟨sb, a, none⟩ (.int .i64 1)) from by
            refine ⟨?_, hR.out.2.set1 sb a rfl _⟩
            have := hR.out.1.set a (.int .i64 ((1 : Nat) : Int))
            rw [vals_set, seenL_set han] at this
            rw [List.take_add_one, ha]
            exact this)
          have hanI : (a : Int) < (n : Int) := by omega
          have ha2 : decide ((n : Int) ≤ (a : Int)) = false := decide_eq_false (by omega)
          have ha3 : decide (n ≤ a) = false := decide_eq_false (by omega)
          clear hR hget hnm ha han hset
          go_wp2_with fail
          go_roundw
          case rel => exact ⟨i + 1, by go_num, by omega, HN2⟩
          case measure => simp [intOf]; omega
        · have hd : decide ((i : Int) < (n : Int)) = false := decide_eq_false (by omega)
          have hd2 : decide (i < n) = false := decide_eq_false (by omega)
          have hP := (H2.out.2.2.but hR.out.2 (by omega))
          have p1 := (hP.get 1 _ rfl).1
          have p2 := (hP.get 2 _ rfl).1
          have HF := hidq (H2.out.2.1.trans (hR.out.2.below (by have := H2.out.2.1.size; omega) (fun j hj => by omega)))
          have hm5 : n * d * (d + 1) / 2 = 2 * c := by rw [← H0.out.2.2.2.1, HPc.out.2]
          obtain ⟨u, hu⟩ : ∃ u, n * d = u := ⟨_, rfl⟩
          obtain ⟨v, hv⟩ : ∃ v, u * (d + 1) = v := ⟨_, rfl⟩
          rw [hu, hv] at hm5
          have hub : u ≤ 64 := by rw [← hu]; exact Nat.mul_le_mul hn16.2 HD.out.1
          have hvb : v ≤ 320 := by rw [← hv]; exact Nat.mul_le_mul hub (Nat.succ_le_succ HD.out.1)
          have huI : (n : Int) * (d : Int) = (u : Int) := by rw [← hu]; simp
          have hvI : (u : Int) * ((d : Int) + 1) = (v : Int) := by rw [← hv]; simp
          have hmI : (v : Int) / 2 = 2 * (c : Int) := by omega
          have hdb : (d : Int) ≤ 4 := by have := HD.out.1; omega
          clear hP hR hm5 hu hv
          go_wp2_with fail
          go_ret
          exact ⟨rfl, HF.out⟩
end Go.Proofs.Ytgkcbihpojkfaaa

namespace Go.Proofs.Ytgkcbihpojkfaaa
open Go.RowKit Go.Sort

/-- A table of numbers. -/
def tab (n : Nat) (f : Nat → Nat) : List Nat := (List.range n).map f
theorem tab_len (n : Nat) (f : Nat → Nat) : (tab n f).length = n := by simp [tab]
theorem tab_get {n j : Nat} (f : Nat → Nat) (h : j < n) : (tab n f)[j]? = some (f j) := by simp [tab, h]
theorem tab_none {n j : Nat} (f : Nat → Nat) (h : ¬ j < n) : (tab n f)[j]? = none := by simp [tab]; omega
theorem tab_upd {n : Nat} (S : Nat → Nat) (a b t : Nat) (ha : a < n) (hb : b < n) (ht : t = S a + S b) : ((tab n S).set a (t - t / 2)).set b (t / 2) = tab n (Wr.upd S (a, b)) := by
  subst ht
  apply List.ext_getElem?
  intro j
  rw [List.getElem?_set, List.getElem?_set]
  by_cases hj : j < n
  · rw [tab_get _ hj, tab_get _ hj]
    unfold Wr.upd
    dsimp only
    by_cases e2 : b = j
    · subst e2; rw [if_pos rfl, if_pos (by simp [tab_len]; exact hb), if_pos rfl]
    · rw [if_neg e2, if_neg (Ne.symm e2)]
      by_cases e1 : a = j
      · subst e1; rw [if_pos rfl, if_pos (by rw [tab_len]; exact ha), if_pos rfl]
      · rw [if_neg e1, if_neg (Ne.symm e1)]
  · rw [tab_none _ hj, tab_none _ hj, if_neg (by omega), if_neg (by omega)]
theorem tab_of {n : Nat} {l : List Nat} (h : l.length = n) : tab n (fun i => l.getD i 0) = l := by
  apply List.ext_getElem?
  intro j
  by_cases hj : j < n
  · rw [tab_get _ hj, List.getD_eq_getElem?_getD, List.getElem?_eq_getElem (by omega)]; rfl
  · rw [tab_none _ hj, List.getElem?_eq_none (by omega)]
theorem cnts_snoc : ∀ (gs : List (Nat × Nat)) (g : Nat × Nat) (s : Nat → Nat), Wr.cnts (gs ++ [g]) s = Wr.cnts gs s ++ [Wr.run gs s g.1 + Wr.run gs s g.2]
  | [], _, _ => rfl
  | h :: gs, g, s => by
    show (s h.1 + s h.2) :: Wr.cnts (gs ++ [g]) (Wr.upd s h) = (s h.1 + s h.2) :: (Wr.cnts gs (Wr.upd s h) ++ [_])
    rw [cnts_snoc gs g]; rfl
theorem cnts_take : ∀ (gs : List (Nat × Nat)) (k : Nat) (s : Nat → Nat), Wr.cnts (gs.take k) s = (Wr.cnts gs s).take k
  | [], k, s => by simp [Wr.cnts]
  | g :: gs, 0, s => rfl
  | g :: gs, k + 1, s => by
    show _ :: Wr.cnts (gs.take k) (Wr.upd s g) = _ :: (Wr.cnts gs (Wr.upd s g)).take k
    rw [cnts_take gs k]
/-- The first k of a list, behind them zeros. -/
def padTo (k n : Nat) (l : List Nat) : List Nat := l.take k ++ List.replicate (n - k) 0
theorem padTo_get {k n : Nat} {l : List Nat} (hl : l.length = n) (h : k < n) : (padTo k n l)[k]? = some 0 := by
  unfold padTo
  have l1 : (l.take k).length = k := by rw [List.length_take]; omega
  rw [List.getElem?_append_right (by omega), l1, List.getElem?_replicate, if_pos (by omega)]
theorem padTo_set {k n v : Nat} {l : List Nat} (hl : l.length = n) (h : l[k]? = some v) : (padTo k n l).set k v = padTo (k + 1) n l := by
  have hk : k < n := by have := (List.getElem?_eq_some_iff.1 h).1; omega
  apply List.ext_getElem?
  intro j
  unfold padTo
  rw [List.getElem?_set]
  have l1 : (l.take k).length = k := by rw [List.length_take]; omega
  have l2 : (l.take (k + 1)).length = k + 1 := by rw [List.length_take]; omega
  by_cases e : k = j
  · subst e
    rw [if_pos rfl, if_pos (by simp [hl]; omega), List.getElem?_append_left (by omega), List.getElem?_take, if_pos (by omega), h]
  · rw [if_neg e]
    by_cases e2 : j < k
    · rw [List.getElem?_append_left (by omega), List.getElem?_append_left (by omega), List.getElem?_take, List.getElem?_take, if_pos e2, if_pos (by omega)]
    · rw [List.getElem?_append_right (by omega), List.getElem?_append_right (by omega), l1, l2]
      simp only [List.getElem?_replicate]
      by_cases e3 : j < n
      · rw [if_pos (by omega), if_pos (by omega)]
      · rw [if_neg (by omega), if_neg (by omega)]
theorem padTo_zero (n : Nat) (l : List Nat) : padTo 0 n l = List.replicate n 0 := by simp [padTo]
theorem padTo_all {n : Nat} {l : List Nat} (hl : l.length = n) : padTo n n l = l := by simp [padTo, ← hl]
theorem size_setCells' (b : Nat) : ∀ (vs : List Value) (o : Nat) (w : World), (w.setCells b o vs).heap.size = w.heap.size
  | [], _, _ => rfl
  | v :: vs, o, w => by rw [World.setCells, size_setCells' b vs, World.size_setCell]
/-- All of a box laid anew. -/
theorem box_cells {w : World} {b : Nat} {l cs : List Value} (h : BoxAt w b l) (hl : l.length = cs.length) : BoxAt (w.setCells b 0 cs) b cs := by
  have hc : ∀ j, j < cs.length → (w.cell? ⟨b, 0 + j, none⟩).isSome = true := fun j hj => by rw [Nat.zero_add, h.cell j _ (List.getElem?_eq_getElem (by omega))]; rfl
  refine ⟨Nat.lt_of_lt_of_le h.lt (but_setCells b cs 0 w w (But.refl _ w)).size, fun i u hu => ?_, fun i hi => ?_⟩
  · obtain ⟨hj, hv⟩ := List.getElem?_eq_some_iff.1 hu
    have := World.cell?_setCells_in b cs 0 w hc i hj
    rw [Nat.zero_add] at this
    rw [this, hv]
  · rw [World.frozen?_setCells]; exact h.fz i (by omega)

def pass9R (wb n xb t a b : Nat) : List (Value → Nat → World → Prop) :=
  [fun v _ _ => v = .slice (some ⟨wb, 0, none⟩) n n,
   fun v _ _ => v = .pointer (some ⟨xb, 0, none⟩),
   fun v _ _ => v = .int .i64 (a : Int),
   fun v _ _ => v = .slice (some ⟨wb, 0, none⟩) n n,
   fun v _ _ => v = .pointer (some ⟨xb, 1, none⟩),
   fun v _ _ => v = .int .i64 (b : Int),
   fun v _ _ => v = .int .i64 (t : Int),
   fun v _ _ => v = .int .i64 (t : Int),
   fun v _ _ => v = .int .i64 ((t / 2 : Nat) : Int),
   fun v _ _ => v = .int .i64 ((t - t / 2 : Nat) : Int),
   fun v _ _ => v = .int .i64 (t : Int),
   fun v _ _ => v = .int .i64 ((t / 2 : Nat) : Int),
   fun v _ _ => v = .pointer (some ⟨wb, a, none⟩),
   fun _ _ _ => True,
   fun v _ _ => v = .pointer (some ⟨wb, b, none⟩),
   fun _ _ _ => True]
theorem pass9R_kept (wb n xb t a b : Nat) : Reg.GAllKept (Reg.PPres (fun j => j = wb)) (pass9R wb n xb t a b) :=
  ⟨(fun _ _ _ _ _ _ h => h), (fun _ _ _ _ _ _ h => h), (fun _ _ _ _ _ _ h => h), (fun _ _ _ _ _ _ h => h), (fun _ _ _ _ _ _ h => h), (fun _ _ _ _ _ _ h => h), (fun _ _ _ _ _ _ h => h), (fun _ _ _ _ _ _ h => h), (fun _ _ _ _ _ _ h => h), (fun _ _ _ _ _ _ h => h), (fun _ _ _ _ _ _ h => h), (fun _ _ _ _ _ _ h => h), (fun _ _ _ _ _ _ h => h), (fun _ _ _ _ _ _ _ => trivial), (fun _ _ _ _ _ _ h => h), (fun _ _ _ _ _ _ _ => trivial), trivial⟩

/-- How it ends. -/
def PassEnd (n c : Nat) (G : List (Nat × Nat)) (O : List Nat) (s : Nat → Nat) (w : World) (e : Ending) (w' : World) : Prop :=
  ∃ gb ob, e = .returned (.tuple #[.slice (some ⟨gb, 0, none⟩) c c, .slice (some ⟨ob, 0, none⟩) n n]) ∧ BoxAt w' gb (vals (Wr.cnts G s)) ∧ BoxAt w' ob (vals (O.map (Wr.run G s))) ∧ w.heap.size ≤ gb ∧ w.heap.size ≤ ob ∧ Below w.heap.size w w'
/-- What holds between two rounds. -/
def PR1 (w : World) (n c : Nat) (G : List (Nat × Nat)) (s : Nat → Nat) (pl : List Value) (pb wb gb k : Nat) (wr : World) : Prop :=
  BoxAt wr pb pl ∧ BoxAt wr wb (vals (tab n (Wr.run (G.take k) s))) ∧ BoxAt wr gb (vals (padTo k c (Wr.cnts G s))) ∧ Below w.heap.size w wr
def PR2 (w : World) (n : Nat) (G : List (Nat × Nat)) (O : List Nat) (s : Nat → Nat) (wb gb ob k : Nat) (wr : World) : Prop :=
  BoxAt wr wb (vals (tab n (Wr.run G s))) ∧ BoxAt wr gb (vals (Wr.cnts G s)) ∧ BoxAt wr ob (vals (padTo k n (O.map (Wr.run G s)))) ∧ Below w.heap.size w wr

set_option maxRecDepth 20000 in
set_option maxHeartbeats 8000000 in
theorem pass_any (n c : Nat) (ga : Option Addr) (gc : Nat) (oa : Option Addr) (oc : Nat) (ib io ic : Nat) (G : List (Nat × Nat)) (O l : List Nat) (w : World) (hG : SlAt 2 w ga gc c (flatG G)) (hO : NsAt w oa (fun _ => False) O) (hl : NsAt w (some ⟨ib, io, none⟩) (fun _ => False) l)
    (hGl : G.length = c) (hOl : O.length = n) (hll : l.length = n) (hGn : ∀ g ∈ G, g.1 < n ∧ g.2 < n) (hOn : ∀ a ∈ O, a < n) (hc : c ≤ 100) (hn1 : 1 ≤ n) (hn : n ≤ 16) (hlb : ∀ i, l.getD i 0 ≤ 1099511627776) :
    Calls Try.prog 14 #[.agg #[.int .i64 (n : Int), .slice ga c gc, .slice oa n oc], .slice (some ⟨ib, io, none⟩) n ic] w (PassEnd n c G O (fun i => l.getD i 0) w) := by
  obtain ⟨s, hs⟩ : ∃ s : Nat → Nat, (fun i => l.getD i 0) = s := ⟨_, rfl⟩
  have hlb2 : ∀ i, s i ≤ 1099511627776 := fun i => by rw [← hs]; exact hlb i
  have htl : tab n s = l := by rw [← hs]; exact tab_of hll
  rw [hs]
  obtain ⟨pb, hpb⟩ : ∃ pb, w.heap.size = pb := ⟨_, rfl⟩
  obtain ⟨W1, hW1⟩ : ∃ W1, w.alloc (.cells #[.int .i64 (n : Int), .slice ga c gc, .slice oa n oc] 26) = W1 := ⟨_, rfl⟩
  have hB1 := BoxAt.new w [.int .i64 (n : Int), .slice ga c gc, .slice oa n oc] 26
  rw [show w.alloc (.cells [.int .i64 (n : Int), .slice ga c gc, .slice oa n oc].toArray 26) = W1 from hW1, hpb] at hB1
  have hb1 : Below w.heap.size w W1 := by rw [← hW1]; exact (Below.refl _ _).alloc (Nat.le_refl _) _
  have hs1 : W1.heap.size = pb + 1 := by rw [← hW1]; simp [hpb]
  obtain ⟨W2, hW2⟩ : ∃ W2, W1.alloc (.cells (Array.replicate n (Value.int .i64 0)) 2) = W2 := ⟨_, rfl⟩
  have hB2 := BoxAt.new W1 (List.replicate n (Value.int .i64 0)) 2
  rw [List.toArray_replicate, hW2, hs1] at hB2
  have hb2 : Below W1.heap.size W1 W2 := by rw [← hW2]; exact (Below.refl _ _).alloc (Nat.le_refl _) _
  have hs2 : W2.heap.size = pb + 2 := by rw [← hW2]; simp [hs1]
  obtain ⟨W3, hW3⟩ : ∃ W3, W2.setCells (pb + 1) 0 (vals l) = W3 := ⟨_, rfl⟩
  have hB3 : BoxAt W3 (pb + 1) (vals l) := by rw [← hW3]; exact box_cells hB2 (by rw [vals_length, hll]; simp)
  have hb3 : But (fun j => j = pb + 1) W2 W3 := by rw [← hW3]; exact but_setCells _ _ _ _ _ (But.refl _ _)
  have hb02 : Below w.heap.size w W2 := hb1.trans (hb2.mono hb1.size)
  have hcp : ∀ ty, (Builtin.copy_ #[37, 37] ty #[.slice (some ⟨pb + 1, 0, none⟩) n n, .slice (some ⟨ib, io, none⟩) n ic]).run Try.prog W2 = .ok (goInt n) W3 := fun ty => by
    have := run_copy_cells (P := Try.prog) W2 37 37 ty 2 (pb + 1) 0 n n ⟨ib, io, none⟩ n ic (vals l) Try.underlying37 (by kernel_rfl) (by rw [vals_length, hll]; exact (Nat.min_self n).symm)
      (fun j v hv => by
        simp only [vals, List.getElem?_map, Option.map_eq_some_iff] at hv
        obtain ⟨m, hm, rfl⟩ := hv
        obtain ⟨b', o', he, _, _, hcell⟩ := (hl.below hb02) j m hm
        cases he
        rw [Addr.add_lit]; exact hcell)
      (fun j hj => by rw [Nat.zero_add, hB2.cell j (.int .i64 0) (by rw [List.getElem?_replicate, if_pos (by rw [vals_length] at hj; omega)])]; rfl)
      (fun j hj => by rw [Nat.zero_add]; exact hB2.fz j (by rw [vals_length] at hj; simp; omega)) (vals_one l)
    rw [hW3, vals_length, hll] at this
    exact this
  have hs3 : W3.heap.size = pb + 2 := by
    have h1 := hb3.size
    have h2 : W3.heap.size = W2.heap.size := by rw [← hW3]; exact size_setCells' _ _ _ _
    omega
  obtain ⟨W4, hW4⟩ : ∃ W4, W3.alloc (.cells (Array.replicate c (Value.int .i64 0)) 2) = W4 := ⟨_, rfl⟩
  have hB4 := BoxAt.new W3 (List.replicate c (Value.int .i64 0)) 2
  rw [List.toArray_replicate, hW4, hs3] at hB4
  have hb4 : Below W3.heap.size W3 W4 := by rw [← hW4]; exact (Below.refl _ _).alloc (Nat.le_refl _) _
  have hP3 : BoxAt W3 pb [.int .i64 (n : Int), .slice ga c gc, .slice oa n oc] := (hB1.below hb2).but hb3 (by omega)
  have hb03 : Below w.heap.size w W3 := hb02.trans (hb3.below hb02.size (fun j hj => by omega))
  have HR := hidq (show PR1 w n c G s [.int .i64 (n : Int), .slice ga c gc, .slice oa n oc] pb (pb + 1) (pb + 2) 0 W4 from
    ⟨hP3.below hb4, by rw [List.take_zero]; show BoxAt W4 (pb + 1) (vals (tab n s)); rw [htl]; exact hB3.below hb4, by rw [padTo_zero, vals_zero]; exact hB4, hb03.trans (hb4.mono hb03.size)⟩)
  have p30 := (hP3.get 0 _ rfl).1
  have p31 := (hP3.get 1 _ rfl).1
  have p10 := (hB1.get 0 _ rfl).1
  have hpl3 : pb < W3.heap.size := by omega
  have hmk1 := zerosL n (by omega) W1
  rw [List.toArray_replicate, hW2, hs1] at hmk1
  have hmk3 := zerosL c (by omega) W3
  rw [List.toArray_replicate, hW4, hs3] at hmk3
  have p41 := ((hP3.below hb4).get 1 _ rfl).1
  have H0 := hidq (And.intro hG (And.intro hO (And.intro hGl (And.intro hOl (And.intro hGn (And.intro hOn hlb2))))))
  clear hG hO hl hGl hOl hGn hOn hlb2 hlb hs htl hB1 hb1 hB2 hb2 hB3 hb3 hb02 hB4 hb4 hP3 hb03 hW2 hW3 hW4 hs1 hs2 hs3 hll
  go_enter Try.func14, Try.ntmps14
  go_wp2_with fail
  clear hcp hmk1 hmk3 p30 p31 p10 p41 hpl3 hW1
  go_loopw [27] (fun s27 wr => ∃ k : Nat, s27 = .int .i64 (k : Int) ∧ k ≤ c ∧ Hid (PR1 w n c G s [.int .i64 (n : Int), .slice ga c gc, .slice oa n oc] pb (pb + 1) (pb + 2) k wr)) (fun s27 _ => c - (intOf s27).toNat)
  case atStart => exact ⟨0, rfl, Nat.zero_le _, HR⟩
  case round =>
    obtain ⟨k, rfl, hk, hR⟩ := hrel
    clear HR
    by_cases hlt : k < c
    · have hltI : (k : Int) < (c : Int) := by omega
      obtain ⟨hG, hO, hGl, hOl, hGn, hOn, hlb⟩ := H0.out
      obtain ⟨r1, r2, r3, r4⟩ := hR.out
      obtain ⟨g, hg⟩ : ∃ g, G[k]? = some g := ⟨_, List.getElem?_eq_getElem (by omega)⟩
      obtain ⟨ha, hb⟩ := hGn g (List.mem_of_getElem? hg)
      obtain ⟨f1, f2⟩ := flatG_get _ _ _ hg
      obtain ⟨q, rfl, hgl, q1⟩ := (hG.below r4).cell f1
      obtain ⟨q', hq', _, q2⟩ := (hG.below r4).cell f2
      cases hq'
      obtain ⟨a, b⟩ := g
      dsimp only at *
      obtain ⟨S, hS⟩ : ∃ S, Wr.run (G.take k) s = S := ⟨_, rfl⟩
      rw [hS] at r2
      have hSb : ∀ v, S v ≤ 1099511627776 := by rw [← hS]; exact Wr.run_le _ _ _ hlb
      have hcnt : (Wr.cnts G s)[k]? = some (S a + S b) := by
        have e1 : G.take (k + 1) = G.take k ++ [(a, b)] := by rw [List.take_add_one, hg]; rfl
        have e2 : Wr.cnts (G.take (k + 1)) s = Wr.cnts (G.take k) s ++ [S a + S b] := by rw [e1, cnts_snoc, hS]
        have e3 : Wr.cnts (G.take (k + 1)) s = (Wr.cnts G s).take (k + 1) := cnts_take G (k + 1) s
        have e4 : (Wr.cnts (G.take k) s).length = k := by rw [Wr.cnts_length, List.length_take]; omega
        have e5 : ((Wr.cnts G s).take (k + 1))[k]? = some (S a + S b) := by rw [← e3, e2, List.getElem?_append_right (by omega), e4]; simp
        rw [List.getElem?_take, if_pos (by omega)] at e5
        exact e5
      have hclen : (Wr.cnts G s).length = c := by rw [Wr.cnts_length, hGl]
      obtain ⟨xb, hxb⟩ : ∃ xb, wr.heap.size = xb := ⟨_, rfl⟩
      obtain ⟨X, hX⟩ : ∃ X, wr.alloc (.cells #[.int .i64 (a : Int), .int .i64 (b : Int)] 35) = X := ⟨_, rfl⟩
      have hbX : Below wr.heap.size wr X := by rw [← hX]; exact (Below.refl _ _).alloc (Nat.le_refl _) _
      have hBX := BoxAt.new wr [.int .i64 (a : Int), .int .i64 (b : Int)] 35
      rw [show wr.alloc (.cells [.int .i64 (a : Int), .int .i64 (b : Int)].toArray 35) = X from hX, hxb] at hBX
      have hxl : pb + 2 < xb := by have := r3.lt; omega
      have HX := hidq hX
      have haI : (a : Int) < (n : Int) := by omega
      have hbI : (b : Int) < (n : Int) := by omega
      have HK := hidq (And.intro (r1.below hbX) (And.intro (r2.below hbX) (And.intro (r3.below hbX) (And.intro (r4.trans (hbX.mono r4.size)) (And.intro hBX (And.intro hcnt (And.intro hclen (And.intro hS hg))))))))
      have HSb := hidq hSb
      clear hG hO hGl hOl hGn hOn hlb r1 r2 r3 r4 f1 f2 hbX hBX hcnt hclen hS hSb hX hg hR
      go_wp2_with fail
      rw [show wr.alloc (.cells #[.int .i64 (a : Int), .int .i64 (b : Int)] 35) = X from HX.out]
      clear q1 q2 hgl HX hxb
      obtain ⟨x1, x2, x3, x4, x5, x6, x7, x8, x9⟩ := HK.out
      have c0 := (x5.get 0 _ rfl).1
      have c1 := (x5.get 1 _ rfl).1
      have ca := (x2.get a (.int .i64 ((S a : Nat) : Int)) (by simp [vals, tab_get S ha])).1
      have cb := (x2.get b (.int .i64 ((S b : Nat) : Int)) (by simp [vals, tab_get S hb])).1
      obtain ⟨cgk, zgk⟩ := x3.get k (.int .i64 ((0 : Nat) : Int)) (by simp [vals, padTo_get x7 hlt])
      have hSa := HSb.out a
      have hSb := HSb.out b
      clear x1 x2 x3 x4 x5 x6 x7 x8 x9 HSb
      obtain ⟨t, ht⟩ : ∃ t, S a + S b = t := ⟨_, rfl⟩
      have HT2 := hidq ht
      have HTS := hidq ht.symm
      obtain ⟨sa, hsa⟩ : ∃ sa, S a = sa := ⟨_, rfl⟩
      obtain ⟨sb, hsb⟩ : ∃ sb, S b = sb := ⟨_, rfl⟩
      rw [hsa] at ca hSa ht
      rw [hsb] at cb hSb ht
      have HT := hidq ht
      clear hsa hsb
      have h1 : (sa : Int) ≤ 1099511627776 := by omega
      have h2 : (sb : Int) ≤ 1099511627776 := by omega
      clear hSa hSb ht
      go_quiet (fail)
      go_wp2_with fail
      have htI : (sa : Int) + (sb : Int) = (t : Int) := by have := HT.out; omega
      rw [htI]
      obtain ⟨V, hV⟩ : ∃ V, (X.drewN nq).setCell ⟨pb + 2, k, none⟩ (.int .i64 (t : Int)) = V := ⟨_, rfl⟩
      rw [hV]
      obtain ⟨x1, x2, x3, x4, x5, x6, x7, x8, x9⟩ := HK.out
      rw [HT2.out] at x6
      have hbV : But (fun j => j = pb + 2) X V := by rw [← hV]; exact (But.drewN (But.refl (fun j => j = pb + 2) X) nq).set1 _ _ rfl _
      have x3' := ((x3.drewN nq).set k (.int .i64 (t : Int)))
      rw [hV, vals_set, padTo_set x7 x6] at x3'
      have y2 := x2.but hbV (by omega)
      have y5 := x5.but hbV (by omega)
      obtain ⟨T, hT⟩ : ∃ T, tab n S = T := ⟨_, rfl⟩
      rw [hT] at y2
      have hTl : T.length = n := by rw [← hT, tab_len]
      obtain ⟨wb, hwb⟩ : ∃ wb, pb + 1 = wb := ⟨_, rfl⟩
      rw [hwb] at y2
      have HT0 := hidq y2
      have HTL := hidq hTl
      have HSUB := hidq (show ((t - t / 2 : Nat) : Int) = (t : Int) - (t : Int) / 2 from by omega)
      have FX := hidq (fun W (hW : But (fun j => j = wb) V W) => (show W.cell? ⟨xb, 0, none⟩ = some (.int .i64 (a : Int)) ∧ W.cell? ⟨xb, 1, none⟩ = some (.int .i64 (b : Int)) from
        ⟨((y5.but hW (by omega)).get 0 _ rfl).1, ((y5.but hW (by omega)).get 1 _ rfl).1⟩))
      have HF : ∀ (x : Nat) (w w' : World), Below w.heap.size w w' → ((x = 0 → BoxAt w wb (vals T)) ∧ (x = 1 → BoxAt w wb (vals (T.set a (t - t / 2)))) ∧ (x = 2 → BoxAt w wb (vals ((T.set a (t - t / 2)).set b (t / 2))))) → ((x = 0 → BoxAt w' wb (vals T)) ∧ (x = 1 → BoxAt w' wb (vals (T.set a (t - t / 2)))) ∧ (x = 2 → BoxAt w' wb (vals ((T.set a (t - t / 2)).set b (t / 2))))) :=
        fun _ _ _ hB h => ⟨fun e => (h.1 e).below hB, fun e => (h.2.1 e).below hB, fun e => (h.2.2 e).below hB⟩
      have HV := hidq (And.intro (x1.but hbV (by omega)) (And.intro x3' (And.intro (x4.trans (hbV.below x4.size (fun j hj => by omega))) (And.intro x8 (And.intro x9 (And.intro hT hwb))))))
      have htb : (t : Int) ≤ 2199023255552 := by omega
      have ht0 : (0 : Int) ≤ (t : Int) := by omega
      rw [hwb]
      clear x1 x2 x3 x4 x5 x6 x7 x8 x9 hbV x3' y2 y5 hT hTl hV HK ca cb c0 c1 cgk zgk htI h1 h2
      refine Reg.wp_region_ghost (Reg.gofList (pass9R wb n xb t a b)) (Reg.PPres (fun j => j = wb)) (Reg.PInv [13, 15] (fun j => j = wb) V (fun x w => (x = 0 → BoxAt w wb (vals T)) ∧ (x = 1 → BoxAt w wb (vals (T.set a (t - t / 2)))) ∧ (x = 2 → BoxAt w wb (vals ((T.set a (t - t / 2)).set b (t / 2)))))) 0 (by kernel_rfl) (by kernel_rfl) (Reg.GAllKept.at _ (pass9R_kept wb n xb t a b)) (Reg.PInv.start 16 ⟨fun _ => HT0.out.drew, (fun e => by cases e), (fun e => by cases e)⟩) ⟨?_, ?_, ?_, ?_, ?_, ?_, ?_, ?_, ?_, ?_, ?_, ?_, ?_, ?_, ?_, ?_, trivial⟩ ?_
      · refine Reg.GStepAt.plain (i := 0) rfl ?_
        intro x L ev w hI hk hp hA
        have e6 : ev (.tmp 6) = .slice (some ⟨wb, 0, none⟩) n n := hA.oldNone 6 (by kernel_rfl)
        have hcc := hA.const
        clear hA hp
        refine Reg.out_value (v := .slice (some ⟨wb, 0, none⟩) n n) ?_ ⟨x, rfl, Reg.PPres.refl _ _ _, Reg.PInv.light HF hI 0 (by decide) (Below.refl _ _)⟩
        go_simp
      · refine Reg.GStepAt.plain (i := 1) rfl ?_
        intro x L ev w hI hk hp hA
        have e9 : ev (.tmp 9) = .pointer (some ⟨xb, 0, none⟩) := hA.oldNone 9 (by kernel_rfl)
        have hcc := hA.const
        clear hA hp
        refine Reg.out_value (v := .pointer (some ⟨xb, 0, none⟩)) ?_ ⟨x, rfl, Reg.PPres.refl _ _ _, Reg.PInv.light HF hI 1 (by decide) (Below.refl _ _)⟩
        go_simp
      · refine Reg.GStepAt.plain (i := 2) rfl ?_
        intro x L ev w hI hk hp hA
        have e48 : ev (.tmp 48) = .pointer (some ⟨xb, 0, none⟩) := hA.val 1 _ 48 rfl (hp ⟨1, .data⟩ (by simp) rfl) rfl
        have hcc := hA.const
        clear hA hp
        obtain ⟨f0, f1⟩ := FX.out w hI.2.1
        refine Reg.out_value (v := .int .i64 (a : Int)) ?_ ⟨x, rfl, Reg.PPres.refl _ _ _, Reg.PInv.light HF hI 2 (by decide) (Below.refl _ _)⟩
        go_simp
      · refine Reg.GStepAt.plain (i := 3) rfl ?_
        intro x L ev w hI hk hp hA
        have e6 : ev (.tmp 6) = .slice (some ⟨wb, 0, none⟩) n n := hA.oldNone 6 (by kernel_rfl)
        have hcc := hA.const
        clear hA hp
        refine Reg.out_value (v := .slice (some ⟨wb, 0, none⟩) n n) ?_ ⟨x, rfl, Reg.PPres.refl _ _ _, Reg.PInv.light HF hI 3 (by decide) (Below.refl _ _)⟩
        go_simp
      · refine Reg.GStepAt.plain (i := 4) rfl ?_
        intro x L ev w hI hk hp hA
        have e9 : ev (.tmp 9) = .pointer (some ⟨xb, 0, none⟩) := hA.oldNone 9 (by kernel_rfl)
        have hcc := hA.const
        clear hA hp
        refine Reg.out_value (v := .pointer (some ⟨xb, 1, none⟩)) ?_ ⟨x, rfl, Reg.PPres.refl _ _ _, Reg.PInv.light HF hI 4 (by decide) (Below.refl _ _)⟩
        go_simp
      · refine Reg.GStepAt.plain (i := 5) rfl ?_
        intro x L ev w hI hk hp hA
        have e51 : ev (.tmp 51) = .pointer (some ⟨xb, 1, none⟩) := hA.val 4 _ 51 rfl (hp ⟨4, .data⟩ (by simp) rfl) rfl
        have hcc := hA.const
        clear hA hp
        obtain ⟨f0, f1⟩ := FX.out w hI.2.1
        refine Reg.out_value (v := .int .i64 (b : Int)) ?_ ⟨x, rfl, Reg.PPres.refl _ _ _, Reg.PInv.light HF hI 5 (by decide) (Below.refl _ _)⟩
        go_simp
      · refine Reg.GStepAt.plain (i := 6) rfl ?_
        intro x L ev w hI hk hp hA
        have e10 : ev (.tmp 10) = .int .i64 (t : Int) := hA.oldNone 10 (by kernel_rfl)
        have hcc := hA.const
        clear hA hp
        refine Reg.out_value (v := .int .i64 (t : Int)) ?_ ⟨x, rfl, Reg.PPres.refl _ _ _, Reg.PInv.light HF hI 6 (by decide) (Below.refl _ _)⟩
        go_simp
      · refine Reg.GStepAt.plain (i := 7) rfl ?_
        intro x L ev w hI hk hp hA
        have e10 : ev (.tmp 10) = .int .i64 (t : Int) := hA.oldNone 10 (by kernel_rfl)
        have hcc := hA.const
        clear hA hp
        refine Reg.out_value (v := .int .i64 (t : Int)) ?_ ⟨x, rfl, Reg.PPres.refl _ _ _, Reg.PInv.light HF hI 7 (by decide) (Below.refl _ _)⟩
        go_simp
      · refine Reg.GStepAt.plain (i := 8) rfl ?_
        intro x L ev w hI hk hp hA
        have e54 : ev (.tmp 54) = .int .i64 (t : Int) := hA.val 7 _ 54 rfl (hp ⟨7, .data⟩ (by simp) rfl) rfl
        have hcc := hA.const
        clear hA hp
        refine Reg.out_value (v := .int .i64 ((t / 2 : Nat) : Int)) ?_ ⟨x, rfl, Reg.PPres.refl _ _ _, Reg.PInv.light HF hI 8 (by decide) (Below.refl _ _)⟩
        go_simp; rw [IntKind.wrap_i64]; omega
      · refine Reg.GStepAt.plain (i := 9) rfl ?_
        intro x L ev w hI hk hp hA
        have e53 : ev (.tmp 53) = .int .i64 (t : Int) := hA.val 6 _ 53 rfl (hp ⟨6, .data⟩ (by simp) rfl) rfl
        have e55 : ev (.tmp 55) = .int .i64 ((t / 2 : Nat) : Int) := hA.val 8 _ 55 rfl (hp ⟨8, .data⟩ (by simp) rfl) rfl
        have hcc := hA.const
        clear hA hp
        refine Reg.out_value (v := .int .i64 ((t - t / 2 : Nat) : Int)) ?_ ⟨x, rfl, Reg.PPres.refl _ _ _, Reg.PInv.light HF hI 9 (by decide) (Below.refl _ _)⟩
        clear hI
        rw [HSUB.out]
        go_simp; rw [IntKind.wrap_i64]; omega
      · refine Reg.GStepAt.plain (i := 10) rfl ?_
        intro x L ev w hI hk hp hA
        have e10 : ev (.tmp 10) = .int .i64 (t : Int) := hA.oldNone 10 (by kernel_rfl)
        have hcc := hA.const
        clear hA hp
        refine Reg.out_value (v := .int .i64 (t : Int)) ?_ ⟨x, rfl, Reg.PPres.refl _ _ _, Reg.PInv.light HF hI 10 (by decide) (Below.refl _ _)⟩
        go_simp
      · refine Reg.GStepAt.plain (i := 11) rfl ?_
        intro x L ev w hI hk hp hA
        have e57 : ev (.tmp 57) = .int .i64 (t : Int) := hA.val 10 _ 57 rfl (hp ⟨10, .data⟩ (by simp) rfl) rfl
        have hcc := hA.const
        clear hA hp
        refine Reg.out_value (v := .int .i64 ((t / 2 : Nat) : Int)) ?_ ⟨x, rfl, Reg.PPres.refl _ _ _, Reg.PInv.light HF hI 11 (by decide) (Below.refl _ _)⟩
        go_simp; rw [IntKind.wrap_i64]; omega
      · refine Reg.GStepAt.plain (i := 12) rfl ?_
        intro x L ev w hI hk hp hA
        have e47 : ev (.tmp 47) = .slice (some ⟨wb, 0, none⟩) n n := hA.val 0 _ 47 rfl (hp ⟨0, .data⟩ (by simp) rfl) rfl
        have e49 : ev (.tmp 49) = .int .i64 (a : Int) := hA.val 2 _ 49 rfl (hp ⟨2, .data⟩ (by simp) rfl) rfl
        have hcc := hA.const
        clear hA hp
        refine Reg.out_value (v := .pointer (some ⟨wb, a, none⟩)) ?_ ⟨x, rfl, Reg.PPres.refl _ _ _, Reg.PInv.light HF hI 12 (by decide) (Below.refl _ _)⟩
        go_simp
      · refine Reg.GStepAt.plain (i := 13) rfl ?_
        intro x L ev w hI hk hp hA
        have e59 : ev (.tmp 59) = .pointer (some ⟨wb, a, none⟩) := hA.val 12 _ 59 rfl (hp ⟨12, .data⟩ (by simp) rfl) rfl
        have e56 : ev (.tmp 56) = .int .i64 ((t - t / 2 : Nat) : Int) := hA.val 9 _ 56 rfl (hp ⟨9, .data⟩ (by simp) rfl) rfl
        have hcc := hA.const
        have NL := Reg.not_listed hA 13 15 _ rfl ⟨13, .chain⟩ (by simp) rfl hk
        clear hA hp
        have hx : x = 0 := hI.1.trans (Reg.cnt_zero2 (Reg.getD_true hk) NL)
        have hT := hI.2.2.1 hx
        obtain ⟨u, hu⟩ : ∃ u, T[a]? = some u := ⟨_, List.getElem?_eq_getElem (by simp [HTL.out]; omega)⟩
        obtain ⟨c1, y1⟩ := hT.get a (.int .i64 (u : Int)) (by simp only [vals, List.getElem?_map, hu]; rfl)
        have hset := hT.set a (.int .i64 ((t - t / 2 : Nat) : Int))
        rw [vals_set] at hset
        have hbS : But (fun j => j = wb) w (w.setCell ⟨wb, a, none⟩ (.int .i64 ((t - t / 2 : Nat) : Int))) := (But.refl (fun j => j = wb) w).set1 wb a rfl _
        refine Reg.out_skipP (w' := w.setCell ⟨wb, a, none⟩ (.int .i64 ((t - t / 2 : Nat) : Int))) ?_ ⟨x + 1, trivial, Reg.PPres.heavy hbS, Reg.PInv.heavy hI 13 (by decide) (by simp) hk hbS ⟨fun e => by omega, fun e => by exact hset, fun e => by omega⟩⟩
        clear hI hset hT hbS
        go_simp
      · refine Reg.GStepAt.plain (i := 14) rfl ?_
        intro x L ev w hI hk hp hA
        have e50 : ev (.tmp 50) = .slice (some ⟨wb, 0, none⟩) n n := hA.val 3 _ 50 rfl (hp ⟨3, .data⟩ (by simp) rfl) rfl
        have e52 : ev (.tmp 52) = .int .i64 (b : Int) := hA.val 5 _ 52 rfl (hp ⟨5, .data⟩ (by simp) rfl) rfl
        have hcc := hA.const
        clear hA hp
        refine Reg.out_value (v := .pointer (some ⟨wb, b, none⟩)) ?_ ⟨x, rfl, Reg.PPres.refl _ _ _, Reg.PInv.light HF hI 14 (by decide) (Below.refl _ _)⟩
        go_simp
      · refine Reg.GStepAt.plain (i := 15) rfl ?_
        intro x L ev w hI hk hp hA
        have e60 : ev (.tmp 60) = .pointer (some ⟨wb, b, none⟩) := hA.val 14 _ 60 rfl (hp ⟨14, .data⟩ (by simp) rfl) rfl
        have e58 : ev (.tmp 58) = .int .i64 ((t / 2 : Nat) : Int) := hA.val 11 _ 58 rfl (hp ⟨11, .data⟩ (by simp) rfl) rfl
        have hcc := hA.const
        have L13 : L.getD 13 false = true := hp ⟨13, .chain⟩ (by simp) rfl
        clear hA hp
        have hx : x = 1 := hI.1.trans (Reg.cnt_one2 L13 (Reg.getD_true hk))
        have hT := hI.2.2.2.1 hx
        obtain ⟨u, hu⟩ : ∃ u, (T.set a (t - t / 2))[b]? = some u := ⟨_, List.getElem?_eq_getElem (by simp [HTL.out]; omega)⟩
        obtain ⟨c1, y1⟩ := hT.get b (.int .i64 (u : Int)) (by simp only [vals, List.getElem?_map, hu]; rfl)
        have hset := hT.set b (.int .i64 ((t / 2 : Nat) : Int))
        rw [vals_set] at hset
        have hbS : But (fun j => j = wb) w (w.setCell ⟨wb, b, none⟩ (.int .i64 ((t / 2 : Nat) : Int))) := (But.refl (fun j => j = wb) w).set1 wb b rfl _
        refine Reg.out_skipP (w' := w.setCell ⟨wb, b, none⟩ (.int .i64 ((t / 2 : Nat) : Int))) ?_ ⟨x + 1, trivial, Reg.PPres.heavy hbS, Reg.PInv.heavy hI 15 (by decide) (by simp) hk hbS ⟨fun e => by omega, fun e => by omega, fun e => by exact hset⟩⟩
        clear hI hset hT hbS
        go_simp
      intro gx L act wz hall hI hF
      have g47 : act.eval (.tmp 47) = .slice (some ⟨wb, 0, none⟩) n n := hF.val 0 _ 47 rfl (hall 0 (by simp)) rfl
      have g48 : act.eval (.tmp 48) = .pointer (some ⟨xb, 0, none⟩) := hF.val 1 _ 48 rfl (hall 1 (by simp)) rfl
      have g49 : act.eval (.tmp 49) = .int .i64 (a : Int) := hF.val 2 _ 49 rfl (hall 2 (by simp)) rfl
      have g50 : act.eval (.tmp 50) = .slice (some ⟨wb, 0, none⟩) n n := hF.val 3 _ 50 rfl (hall 3 (by simp)) rfl
      have g51 : act.eval (.tmp 51) = .pointer (some ⟨xb, 1, none⟩) := hF.val 4 _ 51 rfl (hall 4 (by simp)) rfl
      have g52 : act.eval (.tmp 52) = .int .i64 (b : Int) := hF.val 5 _ 52 rfl (hall 5 (by simp)) rfl
      have g53 : act.eval (.tmp 53) = .int .i64 (t : Int) := hF.val 6 _ 53 rfl (hall 6 (by simp)) rfl
      have g54 : act.eval (.tmp 54) = .int .i64 (t : Int) := hF.val 7 _ 54 rfl (hall 7 (by simp)) rfl
      have g55 : act.eval (.tmp 55) = .int .i64 ((t / 2 : Nat) : Int) := hF.val 8 _ 55 rfl (hall 8 (by simp)) rfl
      have g56 : act.eval (.tmp 56) = .int .i64 ((t - t / 2 : Nat) : Int) := hF.val 9 _ 56 rfl (hall 9 (by simp)) rfl
      have g57 : act.eval (.tmp 57) = .int .i64 (t : Int) := hF.val 10 _ 57 rfl (hall 10 (by simp)) rfl
      have g58 : act.eval (.tmp 58) = .int .i64 ((t / 2 : Nat) : Int) := hF.val 11 _ 58 rfl (hall 11 (by simp)) rfl
      have g59 : act.eval (.tmp 59) = .pointer (some ⟨wb, a, none⟩) := hF.val 12 _ 59 rfl (hall 12 (by simp)) rfl
      have g60 : act.eval (.tmp 60) = .pointer (some ⟨wb, b, none⟩) := hF.val 14 _ 60 rfl (hall 14 (by simp)) rfl
      have hact := hF.act [47, 48, 49, 50, 51, 52, 53, 54, 55, 56, 57, 58, 59, 60] (by kernel_rfl)
      obtain ⟨hxz, hBz, hFz⟩ := Reg.PInv.done hI (fun j hj => hall j (by simp at hj ⊢; omega))
      clear hF hall
      simp only [List.foldl_cons, List.foldl_nil] at hact
      rw [g47, g48, g49, g50, g51, g52, g53, g54, g55, g56, g57, g58, g59, g60] at hact
      clear g47 g48 g49 g50 g51 g52 g53 g54 g55 g56 g57 g58 g59 g60
      simp only [List.setIfInBounds_toArray, List.set_cons_succ, List.set_cons_zero] at hact
      subst hact
      obtain ⟨v1, v3, v4, v8, v9, vT, vw⟩ := HV.out
      subst vw
      have HN := hidq (show PR1 w n c G s [.int .i64 (n : Int), .slice (some ⟨q, 0, none⟩) c gc, .slice oa n oc] pb (pb + 1) (pb + 2) (k + 1) wz from by
        refine ⟨v1.but hBz (by omega), ?_, v3.but hBz (by omega), v4.trans (hBz.below v4.size (fun j hj => by omega))⟩
        have h2 := hFz.2.2 rfl
        have e1 : G.take (k + 1) = G.take k ++ [(a, b)] := by rw [List.take_add_one, v9]; rfl
        have e2 : Wr.run (G.take (k + 1)) s = Wr.upd S (a, b) := by rw [e1, Wr.run_append, v8]; rfl
        rw [e2, ← tab_upd S a b t ha hb HTS.out, vT]
        exact h2)
      clear v1 v3 v4 v8 v9 vT hBz hFz hI HF HV FX HT0 HTL HSUB
      go_wp2_with fail
      go_roundw
      case rel => exact ⟨k + 1, by go_num, by omega, HN⟩
      case measure => simp [intOf]; omega
    · have hd : decide ((k : Int) < (c : Int)) = false := decide_eq_false (by omega)
      have hd2 : decide (k < c) = false := decide_eq_false (by omega)
      have hkc : k = c := by omega
      obtain ⟨hG, hO, hGl, hOl, hGn, hOn, hlb⟩ := H0.out
      have hR2 := hR.out
      rw [hkc] at hR2
      obtain ⟨r1, r2, r3, r4⟩ := hR2
      rw [List.take_of_length_le (by omega)] at r2
      rw [padTo_all (by rw [Wr.cnts_length, hGl])] at r3
      obtain ⟨S, hS⟩ : ∃ S, Wr.run G s = S := ⟨_, rfl⟩
      rw [hS] at r2
      have hMl : (O.map S).length = n := by rw [List.length_map, hOl]
      have p2 := (r1.get 2 _ rfl).1
      have hpl : pb < wr.heap.size := r1.lt
      have hmk := zerosL n (by omega) wr
      obtain ⟨ob, hob⟩ : ∃ ob, wr.heap.size = ob := ⟨_, rfl⟩
      obtain ⟨V, hV⟩ : ∃ V, wr.alloc (.cells (Array.replicate n (Value.int .i64 0)) 2) = V := ⟨_, rfl⟩
      have hBV := BoxAt.new wr (List.replicate n (Value.int .i64 0)) 2
      rw [List.toArray_replicate, hV, hob] at hBV
      have hbV : Below wr.heap.size wr V := by rw [← hV]; exact (Below.refl _ _).alloc (Nat.le_refl _) _
      rw [List.toArray_replicate, hV, hob] at hmk
      have p2V := ((r1.below hbV).get 2 _ rfl).1
      have HR := hidq (show PR2 w n G O s (pb + 1) (pb + 2) ob 0 V from ⟨by rw [hS]; exact r2.below hbV, r3.below hbV, by rw [padTo_zero, vals_zero]; exact hBV, r4.trans (hbV.mono r4.size)⟩)
      have hob2 : pb + 2 < ob := by have := r3.lt; omega
      have HQ := hidq (And.intro hO (And.intro hOl (And.intro hOn (And.intro hS hMl))))
      clear hG hO hGl hOl hGn hOn hlb r1 r2 r3 r4 hS hMl hBV hbV hV hR hkc hpl H0
      go_wp2_with fail
      clear p2 p2V hmk
      go_loopw [69] (fun s69 wr => ∃ k : Nat, s69 = .int .i64 (k : Int) ∧ k ≤ n ∧ Hid (PR2 w n G O s (pb + 1) (pb + 2) ob k wr)) (fun s69 _ => n - (intOf s69).toNat)
      case atStart => exact ⟨0, rfl, Nat.zero_le _, HR⟩
      case round =>
        obtain ⟨i, rfl, hi, hR⟩ := hrel
        clear HR
        by_cases hlt : i < n
        · have hltI : (i : Int) < (n : Int) := by omega
          obtain ⟨hO, hOl, hOn, hS, hMl⟩ := HQ.out
          obtain ⟨r2, r3, r5, r4⟩ := hR.out
          rw [hS] at r2 r5
          obtain ⟨a, ha⟩ : ∃ a, O[i]? = some a := ⟨_, List.getElem?_eq_getElem (by omega)⟩
          have han := hOn a (List.mem_of_getElem? ha)
          obtain ⟨qb, qo, rfl, hql, _, hqc⟩ := (hO.below r4) i a ha
          have cw := (r2.get a (.int .i64 ((S a : Nat) : Int)) (by simp [vals, tab_get S han])).1
          obtain ⟨c1, z1⟩ := r5.get i (.int .i64 ((0 : Nat) : Int)) (by simp [vals, padTo_get hMl hlt])
          have hanI : (a : Int) < (n : Int) := by omega
          have HN := hidq (show PR2 w n G O s (pb + 1) (pb + 2) ob (i + 1) (wr.setCell ⟨ob, i, none⟩ (.int .i64 ((S a : Nat) : Int))) from by
            have hb : But (fun j => j = ob) wr (wr.setCell ⟨ob, i, none⟩ (.int .i64 ((S a : Nat) : Int))) := (But.refl (fun j => j = ob) wr).set1 _ _ rfl _
            refine ⟨by rw [hS]; exact r2.but hb (by omega), r3.but hb (by omega), ?_, r4.setCell (by show w.heap.size ≤ ob; omega) _⟩
            have := r5.set i (.int .i64 ((S a : Nat) : Int))
            rw [vals_set, padTo_set hMl (by rw [List.getElem?_map, ha]; rfl)] at this
            rw [hS]; exact this)
          clear hO hOl hOn hS hMl r2 r3 r4 r5 ha han hR
          go_wp2_with fail
          go_roundw
          case rel => exact ⟨i + 1, by go_num, by omega, HN⟩
          case measure => simp [intOf]; omega
        · have hd3 : decide ((i : Int) < (n : Int)) = false := decide_eq_false (by omega)
          have hd4 : decide (i < n) = false := decide_eq_false (by omega)
          obtain ⟨hO, hOl, hOn, hS, hMl⟩ := HQ.out
          have hin : i = n := by omega
          have hR2 := hR.out
          rw [hin] at hR2
          obtain ⟨r2, r3, r5, r4⟩ := hR2
          rw [hS, padTo_all hMl] at r5
          have HN := hidq (show PassEnd n c G O s w (.returned (.tuple #[.slice (some ⟨pb + 2, 0, none⟩) c c, .slice (some ⟨ob, 0, none⟩) n n])) wr from ⟨pb + 2, ob, rfl, r3, by rw [hS]; exact r5, by omega, by omega, r4⟩)
          clear hO hOl hOn hS hMl r2 r3 r4 r5 hR hin
          go_wp2_with fail
          go_ret2
          exact HN
end Go.Proofs.Ytgkcbihpojkfaaa

namespace Go.Proofs.Ytgkcbihpojkfaaa
open Go.RowKit Go.Sort

theorem i64_and40 (n : Int) : bits .and .i64 n 1099511627775 = n % 1099511627776 := by
  have h63 : (BitVec.ofInt 64 1099511627775).toNat = 2 ^ 40 - 1 := by decide
  have key : (BitVec.ofInt 64 n &&& BitVec.ofInt 64 1099511627775).toNat = (n % ((2 ^ 64 : Nat) : Int)).toNat % 2 ^ 40 := by
    rw [BitVec.toNat_and, BitVec.toNat_ofInt, h63, Nat.and_two_pow_sub_one_eq_mod]
  show IntKind.i64.wrap ((BitVec.ofInt 64 n &&& BitVec.ofInt 64 1099511627775).toNat : Nat) = n % 1099511627776
  rw [key, IntKind.wrap_i64]
  omega
/-- The numbers of a list, one for each wire. -/
def fewF (m : Nat) (Z : Nat → Int) (i : Nat) : Nat := if i < m then (Z i % 1099511627776).toNat else 0
theorem fewF_le (m : Nat) (Z : Nat → Int) (i : Nat) : fewF m Z i ≤ 1099511627775 := by
  unfold fewF
  split <;> omega
def FewEnd (n : Nat) (f : Nat → Nat) (w : World) (e : Ending) (w' : World) : Prop :=
  ∃ b, e = .returned (.slice (some ⟨b, 0, none⟩) n n) ∧ BoxAt w' b (vals (tab n f)) ∧ w.heap.size ≤ b ∧ Below w.heap.size w w'

set_option maxRecDepth 20000 in
set_option maxHeartbeats 4000000 in
theorem few_any (n : Nat) (a : Option Addr) (m c : Nat) (Z : Nat → Int) (w : World) (h : IntsIn w a m Z) (hn1 : 1 ≤ n) (hn : n ≤ 16) (_hm : m ≤ 9223372036854775807) :
    Calls Try.prog 13 #[.slice a m c, .int .i64 (n : Int)] w (FewEnd n (fewF m Z) w) := by
  have hmk := zerosL n (by omega)
  obtain ⟨f, hf⟩ : ∃ f, fewF m Z = f := ⟨_, rfl⟩
  have hf0 : ∀ i, ¬ i < m → f i = 0 := fun i hi => by rw [← hf]; unfold fewF; rw [if_neg hi]
  have hf1 : ∀ i, i < m → Z i % 1099511627776 = ((f i : Nat) : Int) := fun i hi => by rw [← hf]; unfold fewF; rw [if_pos hi]; omega
  rw [hf]
  obtain ⟨b, hb⟩ : ∃ b, w.heap.size = b := ⟨_, rfl⟩
  obtain ⟨V, hV⟩ : ∃ V, w.alloc (.cells (Array.replicate n (Value.int .i64 0)) 2) = V := ⟨_, rfl⟩
  have hBV := BoxAt.new w (List.replicate n (Value.int .i64 0)) 2
  rw [List.toArray_replicate, hV, hb] at hBV
  have hbV : Below w.heap.size w V := by rw [← hV]; exact (Below.refl _ _).alloc (Nat.le_refl _) _
  have HR := hidq (show BoxAt V b (vals (padTo 0 n (tab n f))) ∧ Below w.heap.size w V from ⟨by rw [padTo_zero, vals_zero]; exact hBV, hbV⟩)
  have hmkw := hmk w
  rw [List.toArray_replicate, hV, hb] at hmkw
  have H := hidq (And.intro h (And.intro hf0 hf1))
  clear h hf0 hf1 hf hBV hbV hmk hV
  go_enter Try.func13, Try.ntmps13
  go_wp2_with fail
  clear hmkw
  go_loopw [11] (fun s11 wr => ∃ k : Nat, s11 = .int .i64 (k : Int) ∧ k ≤ n ∧ Hid (BoxAt wr b (vals (padTo k n (tab n f))) ∧ Below w.heap.size w wr)) (fun s11 _ => n - (intOf s11).toNat)
  case atStart => exact ⟨0, rfl, Nat.zero_le _, HR⟩
  case round =>
    obtain ⟨k, rfl, hk, hR⟩ := hrel
    clear HR
    by_cases hlt : k < n
    · have hltI : (k : Int) < (n : Int) := by omega
      obtain ⟨r1, r2⟩ := hR.out
      obtain ⟨h1, h2, h3⟩ := H.out
      obtain ⟨c1, z1⟩ := r1.get k (.int .i64 ((0 : Nat) : Int)) (by simp [vals, padTo_get (tab_len n f) hlt])
      by_cases hkm : k < m
      · have hkmI : (k : Int) < (m : Int) := by omega
        obtain ⟨q, o, rfl, hql, hqc⟩ := (h1.below r2) k hkm
        have hx := i64_and40 (Z k)
        rw [h3 k hkm] at hx
        have HN := hidq (show BoxAt (wr.setCell ⟨b, k, none⟩ (.int .i64 ((f k : Nat) : Int))) b (vals (padTo (k + 1) n (tab n f))) ∧ Below w.heap.size w (wr.setCell ⟨b, k, none⟩ (.int .i64 ((f k : Nat) : Int))) from by
          refine ⟨?_, r2.setCell (by show w.heap.size ≤ b; omega) _⟩
          have := r1.set k (.int .i64 ((f k : Nat) : Int))
          rw [vals_set, padTo_set (tab_len n f) (tab_get f hlt)] at this
          exact this)
        clear h1 h2 h3 r1 r2 hR
        go_wp2_with fail
        go_roundw
        case rel => exact ⟨k + 1, by go_num, by omega, HN⟩
        case measure => simp [intOf]; omega
      · have hd : decide ((k : Int) < (m : Int)) = false := decide_eq_false (by omega)
        have hd2 : decide (k < m) = false := decide_eq_false (by omega)
        have HN := hidq (show BoxAt wr b (vals (padTo (k + 1) n (tab n f))) ∧ Below w.heap.size w wr from by
          refine ⟨?_, r2⟩
          have e0 : (tab n f)[k]? = some 0 := by rw [tab_get f hlt, h2 k hkm]
          have e1 := padTo_set (tab_len n f) e0
          have e2 : (padTo k n (tab n f)).set k 0 = padTo k n (tab n f) := by
            apply List.ext_getElem?
            intro j
            rw [List.getElem?_set]
            split
            · rename_i e; subst e; rw [padTo_get (tab_len n f) hlt]; split <;> rename_i h9
              · rfl
              · exfalso; apply h9; exact Wr.get_lt (padTo_get (tab_len n f) hlt)
            · rfl
          rw [← e1, e2]; exact r1)
        clear h1 h2 h3 r1 r2 hR
        go_wp2_with fail
        go_roundw
        case rel => exact ⟨k + 1, by go_num, by omega, HN⟩
        case measure => simp [intOf]; omega
    · have hd : decide ((k : Int) < (n : Int)) = false := decide_eq_false (by omega)
      have hd2 : decide (k < n) = false := decide_eq_false (by omega)
      have hkn : k = n := by omega
      have hR2 := hR.out
      rw [hkn, padTo_all (tab_len n f)] at hR2
      have HN := hidq (show FewEnd n f w (.returned (.slice (some ⟨b, 0, none⟩) n n)) wr from ⟨b, rfl, hR2.1, by omega, hR2.2⟩)
      clear hR2 hkn hR
      go_wp2_with fail
      go_ret
      exact HN

theorem sum_range_succ (f : Nat → Nat) (k : Nat) : Wr.sum f (List.range (k + 1)) = Wr.sum f (List.range k) + f k := by
  rw [List.range_succ, Wr.sum_append]; rfl
theorem sum_range_le {f : Nat → Nat} {M : Nat} (h : ∀ i, f i ≤ M) : ∀ k, Wr.sum f (List.range k) ≤ k * M
  | 0 => by simp [Wr.sum]
  | k + 1 => by rw [sum_range_succ]; have := sum_range_le h k; have := h k; rw [Nat.succ_mul]; omega
theorem getD_tab {n : Nat} (f : Nat → Nat) (i : Nat) (h : i < n) : (tab n f).getD i 0 = f i := by
  rw [List.getD_eq_getElem?_getD, tab_get f h]; rfl
theorem getD_tab_le {n M : Nat} {f : Nat → Nat} (h : ∀ i, f i ≤ M) (i : Nat) : (tab n f).getD i 0 ≤ M := by
  by_cases hi : i < n
  · rw [getD_tab f i hi]; exact h i
  · rw [List.getD_eq_getElem?_getD, tab_none f hi]; exact Nat.zero_le _

set_option maxRecDepth 20000 in
set_option maxHeartbeats 8000000 in
theorem wireStep_any (a0 : Int) (a1 : Option Addr) (n1 c1 : Nat) (Z1 : Nat → Int) (w : World) (h1 : IntsIn w a1 n1 Z1) (hl1 : n1 ≤ 9223372036854775807) :
    Calls Try.prog 4 #[.int .i64 a0, .slice a1 n1 c1] w fun e w' => e = .returned (.bool true) ∧ Below w.heap.size w w' := by
  have hA := awake10_any w
  have hWd := fun W => width_any a0 W
  obtain ⟨d, hd⟩ : ∃ d, dOf a0 = d := ⟨_, rfl⟩
  have hd4 : d ≤ 4 := by rw [← hd]; exact dOf_le a0
  rw [hd] at hWd
  obtain ⟨n, hn⟩ : ∃ n, 2 ^ d = n := ⟨_, rfl⟩
  rw [hn] at hWd
  obtain ⟨hleg, hn1, hn16⟩ := legal_pow hd4 hn.symm
  have hMk := fun W => make_ok d n hd4 hn.symm W
  obtain ⟨f, hf⟩ : ∃ f, fewF n1 Z1 = f := ⟨_, rfl⟩
  have hFw := fun W (hW : Below w.heap.size w W) => few_any n a1 n1 c1 Z1 W (h1.below hW) hn1 hn16 hl1
  rw [hf] at hFw
  have hfb : ∀ i, f i ≤ 1099511627775 := by rw [← hf]; exact fewF_le _ _
  obtain ⟨pf1, pf2, pf3, pf4⟩ := plan_facts d hd4
  have hcgl := count_gates d (List.range (2 ^ d)) (by simp)
  have houl := Wr.count_length d (List.range (2 ^ d)) (by simp)
  have hcg := cg_le hd4
  obtain ⟨s', hs'⟩ : ∃ s' : Nat → Nat, (fun i => (tab n f).getD i 0) = s' := ⟨_, rfl⟩
  have hev := Wr.count_even d (List.range (2 ^ d)) s' List.nodup_range (by simp)
  have hse : Wr.sum s' (List.range n) = Wr.sum f (List.range n) := Wr.sum_congr _ (fun a ha => by rw [← hs']; exact getD_tab f a (List.mem_range.1 ha))
  rw [hn] at pf1 pf2 pf3 pf4 hcgl houl hev
  rw [hse] at hev
  obtain ⟨P, hP⟩ : ∃ P, Wr.count d (List.range n) = P := ⟨_, rfl⟩
  rw [hP] at pf1 pf2 pf3 hcgl houl hev
  obtain ⟨c, hc⟩ : ∃ c, cg d = c := ⟨_, rfl⟩
  rw [hc] at hcgl hcg
  obtain ⟨sm, hsm⟩ : ∃ sm, Wr.sum f (List.range n) = sm := ⟨_, rfl⟩
  rw [hsm] at hev
  have hsb : sm ≤ 17592186044416 := by
    have := sum_range_le hfb n
    rw [hsm] at this
    have := Nat.mul_le_mul_right 1099511627775 hn16
    omega
  have HP := hidq (fun W ga gc oa oc ib (hG : SlAt 2 W ga gc c (flatG P.1)) (hO : NsAt W oa (fun _ => False) P.2) (hB : BoxAt W ib (vals (tab n f))) =>
    (show Calls Try.prog 14 #[.agg #[.int .i64 (n : Int), .slice ga c gc, .slice oa n oc], .slice (some ⟨ib, 0, none⟩) n n] W (PassEnd n c P.1 P.2 s' W) from by
      rw [← hs']
      exact pass_any n c ga gc oa oc ib 0 n P.1 P.2 (tab n f) W hG hO (hB.ns _ id) hcgl houl (tab_len n f) (fun g hg => (pf1 g hg).2) pf3 hcg hn1 hn16 (getD_tab_le (fun i => Nat.le_trans (hfb i) (by decide)))))
  have HEv := hidq (fun W => even_any sm n W hn1 (by omega) (by omega))
  have HX := hidq (And.intro hev houl)
  have HS := hidq (And.intro hsm hfb)
  have HPc := hidq (And.intro hP hc)
  have HFw := hidq hFw
  have HMk := hidq hMk
  clear pf1 pf2 pf3 pf4 hcgl houl hcg hev hse hs' hsm hfb hP hc hMk hleg hf h1 hFw hn hd4 hd
  go_enter Try.func4, Try.ntmps4
  go_wp2_with fail
  refine hA.mono ?_
  rintro e w1 ⟨rfl, hb1⟩
  clear hA
  go_wp2_with fail
  refine (hWd _).mono ?_
  rintro e w2 ⟨rfl, hw2⟩
  subst w2
  clear hWd
  go_wp2_with fail
  refine (HMk.out _).mono ?_
  rintro e w3 ⟨ga, gc, oa, oc, rfl, hS, hN, hb3⟩
  rw [HPc.out.1] at hS hN
  rw [HPc.out.2] at hS ⊢
  obtain ⟨pb, hpb⟩ : ∃ pb, w3.heap.size = pb := ⟨_, rfl⟩
  obtain ⟨W, hW⟩ : ∃ W, w3.alloc (.cells #[.int .i64 (n : Int), .slice ga c gc, .slice oa n oc] 26) = W := ⟨_, rfl⟩
  have hb4 : Below w3.heap.size w3 W := by rw [← hW]; exact (Below.refl _ _).alloc (Nat.le_refl _) _
  have hB := BoxAt.new w3 [.int .i64 (n : Int), .slice ga c gc, .slice oa n oc] 26
  rw [show w3.alloc (.cells [.int .i64 (n : Int), .slice ga c gc, .slice oa n oc].toArray 26) = W from hW, hpb] at hB
  have hF : Below w.heap.size w W := (hb1.trans (hb3.mono hb1.size)).trans (hb4.mono (by have := hb1.size; have := hb3.size; omega))
  have HW := hidq hW
  have H1 := hidq (And.intro hF (And.intro hB (And.intro (hS.below hb4) ((hN.mono (T := fun _ => False) (fun _ _ e => e.elim)).below hb4))))
  clear hb1 hb3 hb4 hB hF hS hN hW HMk
  go_wp2_with fail
  rw [show w3.alloc (.cells #[.int .i64 (n : Int), .slice ga c gc, .slice oa n oc] 26) = W from HW.out]
  clear HW
  refine (HFw.out W H1.out.1).mono ?_
  rintro e w5 ⟨ib, rfl, hB5, hib, hb5⟩
  obtain ⟨hF, hB, hS, hN⟩ := H1.out
  have H2 := hidq (And.intro (hF.trans (hb5.mono hF.size)) (And.intro (hB.below hb5) (And.intro (hS.below hb5) (And.intro (hN.below hb5) hB5))))
  clear hF hB hS hN hB5 hib hb5 H1 HFw
  go_wp2_with fail
  have HS0 := hidq (show (0 : Int) = ((Wr.sum f (List.range 0) : Nat) : Int) from rfl)
  go_loopw [9, 32] (fun s9 s32 wr => ∃ (k s : Nat), s9 = .int .i64 (s : Int) ∧ s32 = .int .i64 (k : Int) ∧ k ≤ n ∧ Hid (Wr.sum f (List.range k) = s) ∧ wr = w5) (fun _ s32 _ => n - (intOf s32).toNat)
  case atStart => exact ⟨0, 0, rfl, rfl, Nat.zero_le _, hidq rfl, rfl⟩
  case round =>
    obtain ⟨k, s, rfl, rfl, hk, hks, hwr⟩ := hrel
    subst wr
    clear HS0
    by_cases hlt : k < n
    · have hltI : (k : Int) < (n : Int) := by omega
      obtain ⟨_, _, _, _, hB5⟩ := H2.out
      have cc := (hB5.get k (.int .i64 ((f k : Nat) : Int)) (by simp [vals, tab_get f hlt])).1
      obtain ⟨fk, hfk⟩ : ∃ fk, f k = fk := ⟨_, rfl⟩
      rw [hfk] at cc
      have hfkb : fk ≤ 1099511627775 := by rw [← hfk]; exact HS.out.2 k
      have hsb2 : s ≤ 17592186044416 := by
        have h9 := sum_range_le HS.out.2 k
        rw [hks.out] at h9
        have := Nat.mul_le_mul_right 1099511627775 (show k ≤ 16 by omega)
        omega
      have HK := hidq (show Wr.sum f (List.range (k + 1)) = s + fk from by rw [sum_range_succ, hks.out, hfk])
      clear hB5 hks hfk
      go_wp2_with fail
      go_roundw
      case rel => exact ⟨k + 1, s + fk, by go_num, by go_num, by omega, HK, trivial⟩
      case measure => simp [intOf]; omega
    · have hdd : decide ((k : Int) < (n : Int)) = false := decide_eq_false (by omega)
      have hdd2 : decide (k < n) = false := decide_eq_false (by omega)
      have hkn : k = n := by omega
      have hssm : s = sm := by have h8 := hks.out; rw [hkn] at h8; exact h8.symm.trans HS.out.1
      subst hssm
      obtain ⟨hF, hB, hS, hN, hB5⟩ := H2.out
      have HPP := hidq (HP.out w5 ga gc oa oc ib hS hN hB5)
      have p0 := (hB.get 0 _ rfl).1
      have p1 := (hB.get 1 _ rfl).1
      have p2 := (hB.get 2 _ rfl).1
      have hpl : pb < w5.heap.size := hB.lt
      clear hF hB hS hN hB5 hks hkn
      go_wp2_with fail
      refine HPP.out.mono ?_
      rintro e w7 ⟨gb, ob, rfl, hG7, hO7, hgb, hob, hb7⟩
      have H7 := hidq (And.intro hO7 (H2.out.1.trans (hb7.mono H2.out.1.size)))
      clear hG7 hO7 hgb hob hb7 p0 p1 p2 HPP hpl
      go_wp2_with fail
      refine (HEv.out w7).mono ?_
      rintro e w8 ⟨eb, rfl, hE8, heb, hb8⟩
      have HR := hidq (show BoxAt w8 ob (vals (P.2.map (Wr.run P.1 s'))) ∧ BoxAt w8 eb (vals (evens n s)) ∧ Below w.heap.size w w8 from ⟨H7.out.1.below hb8, hE8, H7.out.2.trans (hb8.mono H7.out.2.size)⟩)
      clear hE8 heb hb8 H7 HEv HP H2 HS
      go_wp2_with fail
      go_loopw [61] (fun s61 wr => ∃ k : Nat, s61 = .int .i64 (k : Int) ∧ k ≤ n ∧ Hid (BoxAt wr ob (vals (P.2.map (Wr.run P.1 s'))) ∧ BoxAt wr eb (vals (evens n s)) ∧ Below w.heap.size w wr)) (fun s61 _ => n - (intOf s61).toNat)
      case atStart => exact ⟨0, rfl, Nat.zero_le _, HR⟩
      case round =>
        obtain ⟨i, rfl, hi, hR⟩ := hrel
        clear HR
        by_cases hlt : i < n
        · have hltI : (i : Int) < (n : Int) := by omega
          obtain ⟨r1, r2, r3⟩ := hR.out
          obtain ⟨hev, houl⟩ := HX.out
          obtain ⟨v, hv⟩ : ∃ v, Wr.E n s i = v := ⟨_, rfl⟩
          obtain ⟨a, ha⟩ : ∃ a, P.2[i]? = some a := ⟨_, List.getElem?_eq_getElem (by omega)⟩
          have hra : Wr.run P.1 s' a = v := by rw [← hv]; exact hev.2 i a ha
          have q1 := (r1.get i (.int .i64 (v : Int)) (by simp [vals, ha, hra])).1
          have q2 := (r2.get i (.int .i64 (v : Int)) (by simp only [vals, List.getElem?_map, evens_get hlt, hv]; rfl)).1
          have HN := hidq (fun q => (show BoxAt (wr.drewN q) ob (vals (P.2.map (Wr.run P.1 s'))) ∧ BoxAt (wr.drewN q) eb (vals (evens n s)) ∧ Below w.heap.size w (wr.drewN q) from ⟨r1.drewN q, r2.drewN q, below_drewN r3 q⟩))
          clear r1 r2 r3 hev houl hv ha hra hR
          go_wp2_with fail
          go_quiet (fail)
          go_wp2_with fail
          go_roundw
          case rel => exact ⟨i + 1, by go_num, by omega, hidq (HN.out _)⟩
          case measure => simp [intOf]; omega
        · have hd3 : decide ((i : Int) < (n : Int)) = false := decide_eq_false (by omega)
          have hd4 : decide (i < n) = false := decide_eq_false (by omega)
          have HF := hidq hR.out.2.2
          clear hR
          go_wp2_with fail
          go_ret
          exact ⟨rfl, HF.out⟩
end Go.Proofs.Ytgkcbihpojkfaaa

namespace Go.Proofs.Ytgkcbihpojkfaaa
open Go.RowKit Go.Sort

theorem fresh_append {P : Program} {k : Nat} {T E : TypeId} (hp : PlainK P k T E) (ty : TypeId) (w : World) (g : Nat) (h : Flat k w g 0 0 []) (x : Value) (m : Nat) (ys : List Value) (hs : Src P k T x m ys w) (hb : m ≤ 1099511627776) :
    ∃ g' cap' w', (Builtin.append_ #[T, T] ty #[.slice (some ⟨g, 0, none⟩) 0 0, x]).run P w = .ok (.slice (some ⟨g', 0, none⟩) m cap') w' ∧ Flat k w' g' cap' m ys ∧ Below w.heap.size w w' ∧ (g' = g ∨ w.heap.size ≤ g') := by
  obtain ⟨i, z, hT, hi, hz, hsz, hzc, hby⟩ := hp
  subst hsz
  have hyl := hs.newsLen
  by_cases hm : m = 0
  · subst hm
    have hy : ys = [] := List.length_eq_zero_iff.1 (by rw [hyl]; omega)
    subst hy
    have hr := run_append_room_src (P := P) w T T ty E i hT hi g 0 0 0 x 0 [] hs (Nat.le_refl _) (fun j hj => absurd hj (Nat.not_lt_zero _)) (fun j hj => absurd hj (Nat.not_lt_zero _))
    exact ⟨g, 0, w, hr, h, Below.refl _ _, .inl rfl⟩
  · have hold : (Builtin.firstCells i.size 0 (.slice (some ⟨g, 0, none⟩) 0 0)).run P w.drew = .ok ([] : List Value).toArray w.drew :=
      run_firstCells_some w.drew i.size 0 ⟨g, 0, none⟩ 0 0 [] (by simp) (fun j u hu => by simp at hu)
    have h63 : ((0 + m : Nat) : Int) ≤ 9223372036854775807 := by omega
    have hmx : m ≤ maxLen := by unfold maxLen; omega
    have hr := run_append_grow_src (P := P) w T T ty E i z hT hi hz (some ⟨g, 0, none⟩) 0 0 [] hold x m ys hs (by omega) h63 (growslice_fits (by omega) (by rw [Nat.zero_add]; exact Nat.le_trans (Nat.mul_le_mul hb hby) (by decide)))
    rw [Nat.zero_add] at hr
    have hge := grownCap_ge w m 0 E
    have hcm := grownCap_le_maxLen w m 0 E hmx
    generalize grownCap w m 0 E = C at hr hge hcm
    rw [List.nil_append] at hr
    have hc : ∀ j, (w.drew.alloc (.cells (ys.toArray ++ Builtin.zeroCells z.cells (C - m)) E)).cell? ⟨w.heap.size, j, none⟩ = (ys.toArray ++ Builtin.zeroCells z.cells (C - m))[j]? := fun j => World.cell?_alloc_new w.drew _ _ j
    refine ⟨w.heap.size, C, _, hr, ?_, ⟨rfl, rfl, rfl, by simp, fun j hj => Below.heap_alloc w.drew _ j hj⟩, .inr (Nat.le_refl _)⟩
    refine ⟨by simp, hyl, hge, hcm, ?_, hs.one, ?_⟩
    · intro t u hu
      have ht : t < ys.length := (List.getElem?_eq_some_iff.1 hu).1
      rw [hc, Array.getElem?_append_left (by simpa using ht), List.getElem?_toArray]
      exact hu
    · intro j hj
      refine ⟨?_, World.frozen?_alloc_new w.drew _ _ _⟩
      rw [hc]
      have : j < (ys.toArray ++ Builtin.zeroCells z.cells (C - m)).size := by
        rw [Array.size_append, size_zeroCells, List.size_toArray, hyl]
        have e2 : m * i.size + (C - m) * i.size = C * i.size := by rw [← Nat.add_mul]; congr 1; omega
        rw [hzc]
        first | omega | (rw [Nat.mul_comm] at e2; omega)
      rw [Array.getElem?_eq_getElem this]; rfl
end Go.Proofs.Ytgkcbihpojkfaaa
