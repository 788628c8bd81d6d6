/-
  What holds between two rounds of layer 11's law of gates.
  What a drawn region makes: which block is whose.
  An operation alone within a statement that draws its order: the machine in its box, the memory, and a new box for the answer.
  A machine's step within a statement that draws its order: the memory, the frame, and a new box for the answer.
-/
import Derived.Test.YtdghgmaoamjnlaaGateStAll
import Derived.Test.YtdghgmaoamjnlaaAloneG6All
import Derived.Test.YtdghgmaoamjnlaaWireDAll
namespace Go.Proofs.Ytdghgmaoamjnlaa
open Go.RowKit Go.Sort

theorem vals_app (a b : List Nat) : vals (a ++ b) = vals a ++ vals b := by simp [vals]
theorem tab_zero (n : Nat) : tab n (fun _ => 0) = List.replicate n 0 := by
  apply List.ext_getElem?
  intro j
  by_cases h : j < n
  · rw [tab_get _ h, List.getElem?_replicate, if_pos h]
  · rw [tab_none _ h, List.getElem?_replicate, if_neg h]
theorem tab_fun {n : Nat} {s : Nat → Nat} (h : ∀ v, n ≤ v → s v = 0) : (fun i => (tab n s).getD i 0) = s := by
  funext i
  rw [List.getD_eq_getElem?_getD]
  by_cases e : i < n
  · rw [tab_get _ e]; rfl
  · rw [tab_none _ e, h i (by omega)]; rfl
theorem box_flat {w : World} {g n cap : Nat} {l : List Value} (h : Flat 1 w g cap n l) : BoxAt w g l := by
  refine ⟨h.lt, h.cell, fun i hi => (h.there i ?_).2⟩
  have := h.len
  have := h.le
  omega
theorem flat_vals {w : World} {g n : Nat} {l : List Nat} (h : BoxAt w g (vals l)) (hl : l.length = n) (hn : n ≤ 1000) : Flat 1 w g n n (vals l) := by
  refine ⟨h.lt, by rw [vals_length, hl, Nat.mul_one], Nat.le_refl _, by unfold maxLen; omega, fun t u hu => h.cell t u hu, vals_one l, fun j hj => ?_⟩
  have hj2 : j < (vals l).length := by rw [vals_length]; omega
  exact ⟨by rw [h.cell j _ (List.getElem?_eq_getElem hj2)]; rfl, h.fz j hj2⟩
/-- With all that came out again: the gates' numbers, and behind them those of the places. -/
theorem TInv.told {n c : Nat} {G : List (Nat × Nat)} {Os : List Nat} {M : Mem} {T : List (Option Fr)} {s : Nat → Nat} (h : TInv n c G Os M T s) (hc : G.length = c) (hT : ∀ x ∈ T, x = none) (hnd : Os.Nodup) (hlt : ∀ v ∈ Os, v < n) :
    ∀ (k x : Nat), (Wr.cnts G s ++ Os.map (Wr.run G s))[k]? = some x → (M.cell k).n = (x : Int) := by
  intro k x hk
  obtain ⟨e1, e2⟩ := h.all hc hT
  have hl : (Wr.cnts G s).length = c := by rw [Wr.cnts_length, hc]
  rw [List.getElem?_append] at hk
  split at hk
  · exact e1 k x hk
  · rename_i hn
    rw [hl] at hk hn
    rw [List.getElem?_map] at hk
    obtain ⟨v, hv, rfl⟩ := Option.map_eq_some_iff.1 hk
    obtain ⟨hj, hv'⟩ := List.getElem?_eq_some_iff.1 hv
    have hi : Os.idxOf v = k - c := by rw [← hv']; exact hnd.idxOf_getElem _ hj
    have := e2 v (hlt v (List.mem_of_getElem? hv))
    rw [hi, show c + (k - c) = k by omega] at this
    exact this
abbrev netL (n c gc oc : Nat) (ga oa : Option Addr) : List Value := [.int .i64 (n : Int), .slice ga c gc, .slice oa n oc]
/-- While tokens come. -/
def LG (w : World) (B n c gc oc : Nat) (ga oa : Option Addr) (D : Nat → Prop) (G : List (Nat × Nat)) (Os : List Nat) (sb mb ib i lb lcap : Nat) (wr : World) : Prop :=
  ∃ (cs : List (Option Tk)) (s : Nat → Nat), GS B n c gc ga oa D G Os mb ib wr (fun k => k = mb) Mem.empty cs s ∧ cs.length = i ∧ (∀ v, s v ≤ i) ∧ (∀ v, n ≤ v → s v = 0) ∧ (∀ x ∈ cs, x ≠ none) ∧ Flat 1 wr lb lcap i (tkv cs) ∧ (B ≤ lb ∧ lb ≠ ib ∧ ¬ GK (fun k => k = mb) cs lb) ∧
    BoxAt wr sb (netL n c gc oc ga oa) ∧ sb < B ∧ Below w.heap.size w wr
theorem frAt_new {w : World} {fb : Nat} {d : Int} (h : BoxAt w fb ((Fr.of 7 0 0 d 0).l none 0 none 0)) : FrAt w fb (fun k => k = fb) (Fr.of 7 0 0 d 0) :=
  ⟨rfl, fun k hk => by rw [hk]; exact h.lt, none, 0, none, 0, h, SlAt.nil 2 w, SlAt.nil 2 w, (fun j hj => by obtain ⟨x, hx, _⟩ := hj; cases hx), (fun j hj => by obtain ⟨x, hx, _⟩ := hj; cases hx)⟩
theorem LG.next {w wr Wa Wf w3 : World} {B n c gc oc : Nat} {ga oa : Option Addr} {D : Nat → Prop} {G : List (Nat × Nat)} {Os : List Nat} {sb mb ib i lb lcap : Nat} {cs : List (Option Tk)} {s : Nat → Nat}
    (hS : GS B n c gc ga oa D G Os mb ib wr (fun k => k = mb) Mem.empty cs s) (hcl : cs.length = i) (hs1 : ∀ v, s v ≤ i) (hs2 : ∀ v, n ≤ v → s v = 0) (hsm : ∀ x ∈ cs, x ≠ none) (hF : Flat 1 wr lb lcap i (tkv cs)) (hlb : B ≤ lb ∧ lb ≠ ib ∧ ¬ GK (fun k => k = mb) cs lb)
    (hBx : BoxAt wr sb (netL n c gc oc ga oa)) (hsB : sb < B) (hlow : Below w.heap.size w wr) (hwB : w.heap.size ≤ B) (hn : 1 ≤ n) (hc : G.length = c) (hG : ∀ g ∈ G, g.1 ≠ g.2) {z : Int} {v x fb g2 c2 : Nat} (hv : into z (n : Int) = (v : Int)) (hvn : v < n) (hx : s v = x)
    {t : TypeId} {ob : Obj} (hWa : wr.setCell ⟨ib, v, none⟩ (.int .i64 ((x : Int) + 1)) = Wa) (hWf : Wa.alloc (.cells ((Fr.of 7 0 0 z 0).l none 0 none 0).toArray t) = Wf) (hfb : Wa.heap.size = fb)
    (hF3 : Flat 1 w3 g2 c2 (i + 1) (tkv cs ++ [.pointer (some ⟨fb, 0, none⟩)])) (hb3 : But (inB (some ⟨lb, 0, none⟩)) (Wf.alloc ob) w3) (hg3 : inB (some ⟨lb, 0, none⟩) g2 ∨ (Wf.alloc ob).heap.size ≤ g2) :
    LG w B n c gc oc ga oa D G Os sb mb ib (i + 1) g2 c2 w3 := by
  have hvN : (into z (n : Int)).toNat = v := by rw [hv]; exact Int.toNat_natCast _
  have hil := hS.inb.lt
  have hll := hF.lt
  have hbl := hBx.lt
  have hib := hS.upi
  have hsa : Wa.heap.size = wr.heap.size := by rw [← hWa]; exact World.size_setCell _ _ _
  have hba : But (fun k => k = ib) wr Wa := by rw [← hWa]; exact (But.refl (fun k => k = ib) wr).set1 ib v rfl _
  have hbf : Below Wa.heap.size Wa Wf := by rw [← hWf]; exact (Below.refl _ _).alloc (Nat.le_refl _) _
  have hsf : Wf.heap.size = fb + 1 := by rw [← hWf, World.size_alloc, hfb]
  have hbaf : But (fun k => k = ib) wr Wf := hba.trans (But.of_below hbf)
  have hIa : BoxAt Wa ib (vals (tab n (Wr.inc s v))) := by
    rw [← hWa, ← Wr_inc_tab n s v hvn, hx, ← vals_set]
    exact hS.inb.set v _
  have hFr : BoxAt Wf fb ((Fr.of 7 0 0 z 0).l none 0 none 0) := by rw [← hWf, ← hfb]; exact BoxAt.new Wa _ t
  have hBW : B ≤ wr.heap.size := by omega
  have hG1 := hS.begin_ hn hc hG NOk.empty (frAt_new hFr) (by omega) hbaf (by rw [hvN]; exact hIa.below hbf) hBW
  rw [hvN] at hG1
  have hbo : Below Wf.heap.size Wf (Wf.alloc ob) := (Below.refl _ _).alloc (Nat.le_refl _) _
  have hso : (Wf.alloc ob).heap.size = fb + 2 := by rw [World.size_alloc, hsf]
  have hlbin : ∀ j, inB (some ⟨lb, 0, none⟩) j → j = lb := fun j hj => by obtain ⟨y, hy, rfl⟩ := hj; cases hy; rfl
  have hGKn : ∀ k, GK (fun k => k = mb) (cs ++ [some ⟨fb, fun k => k = fb, Fr.of 7 0 0 z 0⟩]) k → GK (fun k => k = mb) cs k ∨ k = fb := fun k hk => by
    rcases hk with e | ⟨u, hu, e⟩
    · exact .inl (.inl e)
    · rcases List.mem_append.1 hu with q | q
      · exact .inl (.inr ⟨u, q, e⟩)
      · rw [List.mem_singleton] at q
        cases q
        exact .inr e
  have hG3 : GS B n c gc ga oa D G Os mb ib w3 (fun k => k = mb) Mem.empty (cs ++ [some ⟨fb, fun k => k = fb, Fr.of 7 0 0 z 0⟩]) (Wr.inc s v) := by
    refine (hG1.below hbo).but hb3 (fun k hk e => ?_)
    have ek := hlbin k e
    subst ek
    rcases hk with q | q | q
    · omega
    · exact hlb.2.1 q
    · rcases hGKn _ q with q | q
      · exact hlb.2.2 q
      · omega
  have hbut : But (fun k => k = ib ∨ k = lb) wr w3 := ((hbaf.mono (fun k _ e => .inl e)).trans (But.of_below hbo)).then hb3 (fun k _ e => .inr (hlbin k e))
  refine ⟨cs ++ [some ⟨fb, fun k => k = fb, Fr.of 7 0 0 z 0⟩], Wr.inc s v, hG3, by rw [List.length_append, hcl]; rfl, fun u => ?_, fun u hu => ?_, fun y hy => ?_, ?_, ?_, hBx.but hbut (fun e => by rcases e with e | e <;> omega), hsB, ?_⟩
  · have h1 := hs1 u
    have h2 := hs1 v
    by_cases e : u = v
    · subst e; rw [Wr.inc_at]; omega
    · rw [Wr.inc_o _ _ _ e]; omega
  · rw [Wr.inc_o _ _ _ (by omega)]; exact hs2 u hu
  · rcases List.mem_append.1 hy with q | q
    · exact hsm y q
    · rw [List.mem_singleton] at q
      rw [q]
      exact fun e => by cases e
  · have : tkv (cs ++ [some ⟨fb, fun k => k = fb, Fr.of 7 0 0 z 0⟩]) = tkv cs ++ [.pointer (some ⟨fb, 0, none⟩)] := by simp [tkv]
    rw [this]; exact hF3
  · rcases hg3 with q | q
    · have e := hlbin _ q
      subst e
      refine ⟨hlb.1, hlb.2.1, fun q => ?_⟩
      rcases hGKn _ q with q | q
      · exact hlb.2.2 q
      · omega
    · refine ⟨by omega, by omega, fun q2 => ?_⟩
      rcases hGKn _ q2 with q2 | q2
      · have := (hS.gk_lt _ q2).2.1; omega
      · omega
  · exact hlow.trans (hbut.below (by have := hlow.size; omega) (fun k e => by rcases e with e | e <;> omega))
/-- While they go: left are still under way. -/
def SG (w : World) (B n c gc oc : Nat) (ga oa : Option Addr) (D : Nat → Prop) (G : List (Nat × Nat)) (Os : List Nat) (sb mb ib lb N : Nat) (tg : Bool) (left i : Nat) (wr : World) : Prop :=
  ∃ (O : Nat → Prop) (M : Mem) (cs : List (Option Tk)) (s : Nat → Nat), GS B n c gc ga oa D G Os mb ib wr O M cs s ∧ cs.length = N ∧ M.clock ≤ i ∧ (∀ v, s v ≤ 30) ∧ (∀ v, n ≤ v → s v = 0) ∧ Time tg c i (frs cs) ∧ cs.countP Option.isSome = left ∧ BoxAt wr lb (tkv cs) ∧ (B ≤ lb ∧ lb ≠ ib ∧ ¬ GK O cs lb) ∧
    BoxAt wr sb (netL n c gc oc ga oa) ∧ sb < B ∧ Below w.heap.size w wr
theorem LG.sg {w wr : World} {B n c gc oc : Nat} {ga oa : Option Addr} {D : Nat → Prop} {G : List (Nat × Nat)} {Os : List Nat} {sb mb ib i lb lcap : Nat} (h : LG w B n c gc oc ga oa D G Os sb mb ib i lb lcap wr) (hi : i ≤ 30) (tg : Bool) : SG w B n c gc oc ga oa D G Os sb mb ib lb i tg i 0 wr := by
  obtain ⟨cs, s, h1, h2, h3, h4, h5, h6, h7, h8, h9, h10⟩ := h
  refine ⟨_, _, cs, s, h1, h2, Nat.le_refl _, fun v => Nat.le_trans (h3 v) hi, h4, Time.start, ?_, box_flat h6, h7, h8, h9, h10⟩
  rw [← h2, List.countP_eq_length]
  intro x hx
  cases x with
  | none => exact absurd rfl (h5 _ hx)
  | some t => rfl
theorem live_none {cs : List (Option Tk)} (h : ∀ x ∈ frs cs, x = none) : cs.countP Option.isSome = 0 := by
  rw [List.countP_eq_zero]
  intro x hx
  cases x with
  | none => simp
  | some t =>
    have := h (some t.F) (by unfold frs; exact List.mem_map.2 ⟨some t, hx, rfl⟩)
    cases this
theorem none_live {cs : List (Option Tk)} (h : cs.countP Option.isSome = 0) : ∀ x ∈ frs cs, x = none := by
  intro x hx
  unfold frs at hx
  obtain ⟨y, hy, rfl⟩ := List.mem_map.1 hx
  cases y with
  | none => rfl
  | some t => exact absurd rfl (List.countP_eq_zero.1 h _ hy)
theorem live_set {cs : List (Option Tk)} {k : Nat} {t : Tk} (h : cs[k]? = some (some t)) (x : Option Tk) : (cs.set k x).countP Option.isSome = cs.countP Option.isSome - 1 + (if x.isSome = true then 1 else 0) ∧ 0 < cs.countP Option.isSome := by
  obtain ⟨hk, hx⟩ := List.getElem?_eq_some_iff.1 h
  refine ⟨?_, List.countP_pos_iff.2 ⟨_, List.mem_of_getElem? h, rfl⟩⟩
  rw [List.countP_set hk, hx]
  rfl
section
variable {w wr : World} {B n c gc oc : Nat} {ga oa : Option Addr} {D : Nat → Prop} {G : List (Nat × Nat)} {Os : List Nat} {sb mb ib lb N left i : Nat} {tg : Bool}
/-- There is time for all. -/
theorem SG.time (h : SG w B n c gc oc ga oa D G Os sb mb ib lb N tg left i wr) (hN : N ≤ 30) (hc : c + 1 ≤ 100) (hl : 0 < left) : i < 4000 := by
  obtain ⟨O, M, cs, s, h1, h2, h3, h4, h5, h6, h7, h8⟩ := h
  rcases Nat.lt_or_ge i 4000 with q | q
  · exact q
  · exfalso
    have hm : N * (c + 1) ≤ 30 * 100 := Nat.mul_le_mul hN hc
    have := live_none (h6.all h1.inv.good (by rw [frs_len, h2]; omega))
    omega
/-- Where a turn begins. -/
def k0Of (tg : Bool) (j i : Nat) : Nat := if tg = true then j % i else 0
theorem k0Of_t {tg : Bool} {j i : Nat} (h : tg = true) : k0Of tg j i = j % i := if_pos h
/-- A token's step, with what lies in the list. -/
theorem SG.go {O : Nat → Prop} {M : Mem} {cs : List (Option Tk)} {s : Nat → Nat} (hS : GS B n c gc ga oa D G Os mb ib wr O M cs s) (hcl : cs.length = N) (hck : M.clock ≤ i) (hs30 : ∀ v, s v ≤ 30) (hs2 : ∀ v, n ≤ v → s v = 0) (hti : Time tg c i (frs cs)) (hlv : cs.countP Option.isSome = left)
    (hBl : BoxAt wr lb (tkv cs)) (hlb : B ≤ lb ∧ lb ≠ ib ∧ ¬ GK O cs lb) (hBx : BoxAt wr sb (netL n c gc oc ga oa)) (hsB : sb < B) (hlow : Below w.heap.size w wr) (hwB : w.heap.size ≤ B) (hc : G.length = c) (hn : 1 ≤ n) (hG : ∀ g ∈ G, g.1 ≠ g.2 ∧ g.1 < n ∧ g.2 < n) (hO : ∀ v, v < n → v ∈ Os)
    {k : Nat} {t : Tk} (hk : cs[k]? = some (some t)) (hi : i < 4000) (hf : tg = true → i % N ≤ k ∧ ∀ q, i % N ≤ q → q < k → cs[q]? = some none) {r : Mem × Fr × Ans × Bool} (hr : nStep n c G Os M t.F = r)
    {W' : World} {O' P' : Nat → Prop} (h1 : MemAt W' mb O' r.1) (h2 : FrAt W' t.fb P' r.2.1) (h3 : ∀ k, O' k → ¬ P' k) (h4 : Grown O wr W' O') (h5 : Grown t.P wr W' P') (h6 : But (fun k => O k ∨ t.P k) wr W') :
    SG w B n c gc oc ga oa D G Os sb mb ib lb N tg (if r.2.2.2 = true then left - 1 else left) (i + 1) (if r.2.2.2 = true then W'.setCell ⟨lb, k, none⟩ (.pointer none) else W') := by
  have hll := hBl.lt
  have hbl := hBx.lt
  have hgt : GK O cs t.fb ∧ ∀ q, O q ∨ t.P q → GK O cs q := ⟨.inr ⟨t, List.mem_of_getElem? hk, (hS.fr k t hk).1.ob⟩, fun q e => e.elim .inl (fun e => .inr ⟨t, List.mem_of_getElem? hk, e⟩)⟩
  have hst := hS.step hc hn hG hO hk (by omega) hr h1 h2 h3 h4 h5 h6 (by omega)
  have hlv2 := live_set hk (if r.2.2.2 = true then none else some ⟨t.fb, P', r.2.1⟩)
  have htm := hti.step (Os := Os) (G := G) (M := M) (n := n) (k := k) (F := t.F) (by rw [frs_get hk]; rfl) (hS.inv.good t.F (by unfold frs; exact List.mem_map.2 ⟨some t, List.mem_of_getElem? hk, rfl⟩)) (by
    intro ht
    obtain ⟨f1, f2⟩ := hf ht
    rw [frs_len, hcl]
    exact ⟨f1, fun q a b => by rw [frs_get (f2 q a b)]; rfl⟩)
  rw [hr] at htm
  have hfs : (frs cs).set k (if r.2.2.2 = true then none else some r.2.1) = frs (cs.set k (if r.2.2.2 = true then none else some ⟨t.fb, P', r.2.1⟩)) := by
    rw [frs_set]
    congr 1
    split <;> rfl
  rw [hfs] at htm
  have hckr : r.1.clock ≤ i + 1 := by
    have e : r.1.clock = M.clock + 1 := by
      rw [← hr]
      cases hx : nAhead G t.F.pc.toNat (nWire n t.F) with
      | none => rw [nStep_none hx]; rfl
      | some i =>
        obtain ⟨_, g, hgi, _⟩ := nAhead_some _ (Nat.le_refl _) hx
        rw [nStep_some hx hgi]; rfl
    omega
  have hGKn : ∀ q, GK O' (cs.set k (if r.2.2.2 = true then none else some ⟨t.fb, P', r.2.1⟩)) q → GK O cs q ∨ wr.heap.size ≤ q := fun q hq => by
    rcases hq with e | ⟨u, hu, e⟩
    · exact (h4 q e).imp .inl (fun e => e.1)
    · rcases List.mem_or_eq_of_mem_set hu with x | x
      · exact .inl (.inr ⟨u, x, e⟩)
      · split at x
        · cases x
        · cases x
          exact (h5 q e).imp (fun y => hgt.2 q (.inr y)) (fun y => y.1)
  have hlb2 : B ≤ lb ∧ lb ≠ ib ∧ ¬ GK O' (cs.set k (if r.2.2.2 = true then none else some ⟨t.fb, P', r.2.1⟩)) lb := ⟨hlb.1, hlb.2.1, fun e => (hGKn lb e).elim hlb.2.2 (fun y => by omega)⟩
  have hlow2 : Below w.heap.size w W' := hlow.trans (h6.below (by have := hlow.size; omega) (fun q e => by have := (hS.gk_lt q (hgt.2 q e)).1; omega))
  have hBx2 : BoxAt W' sb (netL n c gc oc ga oa) := hBx.but h6 (fun e => by have := (hS.gk_lt _ (hgt.2 _ e)).1; omega)
  have hBl2 : BoxAt W' lb (tkv cs) := hBl.but h6 (fun e => hlb.2.2 (hgt.2 _ e))
  have htk := tkv_get hk
  obtain ⟨M', F', A, dn⟩ := r
  cases dn with
  | false =>
    refine ⟨O', M', _, s, hst, by rw [List.length_set]; exact hcl, hckr, hs30, hs2, htm, ?_, ?_, hlb2, hBx2, hsB, hlow2⟩
    · have h7 := hlv2.2
      rw [hlv2.1]
      show cs.countP Option.isSome - 1 + 1 = left
      omega
    · show BoxAt W' lb (tkv (cs.set k (some ⟨t.fb, P', F'⟩)))
      rw [← tkv_set]
      refine hBl2.same ?_
      obtain ⟨ha, hb⟩ := List.getElem?_eq_some_iff.1 htk
      apply List.ext_getElem?
      intro j
      rw [List.getElem?_set]
      by_cases e : k = j
      · subst e
        rw [if_pos rfl, if_pos ha, htk]; rfl
      · rw [if_neg e]
  | true =>
    have hb7 : But (fun q => q = lb) W' (W'.setCell ⟨lb, k, none⟩ (.pointer none)) := (But.refl (fun q => q = lb) W').set1 lb k rfl _
    refine ⟨O', M', _, s, hst.but hb7 (fun q hq e => ?_), by rw [List.length_set]; exact hcl, hckr, hs30, hs2, htm, ?_, ?_, hlb2, hBx2.but hb7 (fun e => by omega), hsB, hlow2.trans (hb7.below (by have := hlow2.size; omega) (fun q e => by omega))⟩
    · subst e
      rcases hq with x | x | x
      · omega
      · exact hlb2.2.1 x
      · exact hlb2.2.2 x
    · rw [hlv2.1]
      show cs.countP Option.isSome - 1 + 0 = left - 1
      omega
    · show BoxAt _ lb (tkv (cs.set k none))
      rw [← tkv_set]
      exact hBl2.set k _
/-- A turn at which none is left. -/
theorem SG.pass {O : Nat → Prop} {M : Mem} {cs : List (Option Tk)} {s : Nat → Nat} (hS : GS B n c gc ga oa D G Os mb ib wr O M cs s) (hcl : cs.length = N) (hck : M.clock ≤ i) (hs30 : ∀ v, s v ≤ 30) (hs2 : ∀ v, n ≤ v → s v = 0) (hti : Time tg c i (frs cs)) (hlv : cs.countP Option.isSome = left)
    (hBl : BoxAt wr lb (tkv cs)) (hlb : B ≤ lb ∧ lb ≠ ib ∧ ¬ GK O cs lb) (hBx : BoxAt wr sb (netL n c gc oc ga oa)) (hsB : sb < B) (hlow : Below w.heap.size w wr) (hl : 0 < left) (hno : ∀ q, k0Of tg i N ≤ q → q < N → cs[q]? = some none) : SG w B n c gc oc ga oa D G Os sb mb ib lb N tg left (i + 1) wr := by
  refine ⟨O, M, cs, s, hS, hcl, Nat.le_succ_of_le hck, hs30, hs2, ?_, hlv, hBl, hlb, hBx, hsB, hlow⟩
  cases tg with
  | true =>
    refine hti.skip (fun j a b => ?_)
    rw [frs_len, hcl] at a b
    rw [frs_get (hno j a b)]; rfl
  | false =>
    exfalso
    have : cs.countP Option.isSome = 0 := live_none (fun x hx => by
      obtain ⟨j, hj⟩ := List.mem_iff_getElem?.1 hx
      have hjl : j < N := by
        have := (List.getElem?_eq_some_iff.1 hj).1
        rw [frs_len, hcl] at this; exact this
      rw [frs_get (hno j (Nat.zero_le _) hjl)] at hj
      cases hj; rfl)
    omega
end
end Go.Proofs.Ytdghgmaoamjnlaa

namespace Go.Proofs.Ytdghgmaoamjnlaa
open Go.RowKit Go.Sort
namespace Reg
/-- What each step leaves, where boxes are made: each one's block, by the number of its operation. -/
def DPres (x : Nat → Option Nat) (w : World) (x' : Nat → Option Nat) (w' : World) : Prop :=
  Below w.heap.size w w' ∧ (∀ k b, x k = some b → x' k = some b) ∧ (∀ k b, x' k = some b → x k = some b ∨ w.heap.size ≤ b)
theorem DPres.refl (x : Nat → Option Nat) (w : World) : DPres x w x w := ⟨Below.refl _ _, fun _ _ e => e, fun _ _ e => .inl e⟩
def DInv (W0 : World) (x : Nat → Option Nat) (L : Array Bool) (w : World) : Prop :=
  Below W0.heap.size W0 w ∧ (∀ k b, x k = some b → b < w.heap.size) ∧ (∀ k, L.getD k false = false → x k = none)
theorem getD_set_false {L : Array Bool} {i k : Nat} (h : (L.setIfInBounds i true).getD k false = false) : L.getD k false = false := by
  by_cases e : i = k
  · subst e
    rcases Nat.lt_or_ge i L.size with h' | h'
    · rw [Array.getD_eq_getD_getElem?, Array.getElem?_setIfInBounds_self_of_lt h'] at h; cases h
    · rw [Array.getD_eq_getD_getElem?, Array.getElem?_eq_none h']; rfl
  · rw [getD_setb e] at h; exact h
theorem DInv.light {W0 : World} {x : Nat → Option Nat} {L : Array Bool} {w : World} (h : DInv W0 x L w) (i : Nat) : DInv W0 x (L.setIfInBounds i true) w :=
  ⟨h.1, h.2.1, fun k e => h.2.2 k (getD_set_false e)⟩
theorem DInv.start {w : World} (n : Nat) : DInv w (fun _ => none) (Array.replicate n false) w.drew :=
  ⟨below_drewN (Below.refl _ _) 1, (fun _ _ e => by cases e), fun _ _ => rfl⟩
/-- One box more. -/
def dset (x : Nat → Option Nat) (i b : Nat) : Nat → Option Nat := fun k => if k = i then some b else x k
theorem DPres.new {x : Nat → Option Nat} {w w' : World} {W0 : World} {L : Array Bool} {i : Nat} (hI : DInv W0 x L w) (hk : L.getD i true = false) (hb : Below w.heap.size w w') : DPres x w (dset x i w.heap.size) w' := by
  refine ⟨hb, fun k b e => ?_, fun k b e => ?_⟩
  · unfold dset
    by_cases h : k = i
    · subst h; rw [hI.2.2 k (getD_true hk)] at e; cases e
    · rw [if_neg h]; exact e
  · unfold dset at e
    by_cases h : k = i
    · rw [if_pos h] at e; cases e; exact .inr (Nat.le_refl _)
    · rw [if_neg h] at e; exact .inl e
theorem DInv.new {x : Nat → Option Nat} {w w' : World} {W0 : World} {L : Array Bool} {i : Nat} (hI : DInv W0 x L w) (hk : L.getD i true = false) (hb : Below w.heap.size w w') (hs : w.heap.size < w'.heap.size) : DInv W0 (dset x i w.heap.size) (L.setIfInBounds i true) w' := by
  refine ⟨hI.1.trans (hb.mono hI.1.size), fun k b e => ?_, fun k e => ?_⟩
  · unfold dset at e
    by_cases h : k = i
    · rw [if_pos h] at e; cases e; exact hs
    · rw [if_neg h] at e; exact Nat.lt_trans (hI.2.1 k b e) hs
  · unfold dset
    by_cases h : k = i
    · subst h; rw [getD_sets hk] at e; cases e
    · rw [if_neg h]; exact hI.2.2 k (getD_set_false e)
end Reg
/-- A slice of zeros that one operation of a region made. -/
def Made (k n lo : Nat) (v : Value) (x : Nat → Option Nat) (w : World) : Prop :=
  ∃ b, v = .slice (some ⟨b, 0, none⟩) n n ∧ x k = some b ∧ lo ≤ b ∧ BoxAt w b (vals (List.replicate n 0)) ∧ ∀ j b', j ≠ k → x j = some b' → b' ≠ b
theorem Made.kept {k n lo : Nat} {v : Value} {x x' : Nat → Option Nat} {w w' : World} (hp : Reg.DPres x w x' w') (h : Made k n lo v x w) : Made k n lo v x' w' := by
  obtain ⟨b, h1, h2, h3, h4, h5⟩ := h
  exact ⟨b, h1, hp.2.1 _ _ h2, h3, h4.below hp.1, fun j b' hj e => (hp.2.2 j b' e).elim (h5 j b' hj) (fun h => by have := h4.lt; omega)⟩
theorem Made.new {k n lo : Nat} {x : Nat → Option Nat} {w W0 : World} {L : Array Bool} {t : TypeId} (hI : Reg.DInv W0 x L w) (hlo : lo ≤ w.heap.size) : Made k n lo (.slice (some ⟨w.heap.size, 0, none⟩) n n) (Reg.dset x k w.heap.size) (w.alloc (.cells (Array.replicate n (Value.int .i64 0)) t)) := by
  refine ⟨w.heap.size, rfl, if_pos rfl, hlo, ?_, fun j b' hj e => ?_⟩
  · have := BoxAt.new w (List.replicate n (Value.int .i64 0)) t
    rw [List.toArray_replicate, ← vals_zero] at this
    exact this
  · unfold Reg.dset at e
    rw [if_neg hj] at e
    have := hI.2.1 j b' e
    omega
/-- A memory that one operation of a region made. -/
def MadeM (k lo : Nat) (v : Value) (x : Nat → Option Nat) (w : World) : Prop :=
  ∃ b, v = .pointer (some ⟨b, 0, none⟩) ∧ x k = some b ∧ lo ≤ b ∧ MemAt w b (fun j => j = b) Mem.empty ∧ ∀ j b', j ≠ k → x j = some b' → b' ≠ b
theorem MadeM.kept {k lo : Nat} {v : Value} {x x' : Nat → Option Nat} {w w' : World} (hp : Reg.DPres x w x' w') (h : MadeM k lo v x w) : MadeM k lo v x' w' := by
  obtain ⟨b, h1, h2, h3, h4, h5⟩ := h
  exact ⟨b, h1, hp.2.1 _ _ h2, h3, h4.below hp.1, fun j b' hj e => (hp.2.2 j b' e).elim (h5 j b' hj) (fun h => by have := h4.lt b rfl; omega)⟩
theorem MadeM.new {k lo : Nat} {x : Nat → Option Nat} {w w' W0 : World} {L : Array Bool} (hI : Reg.DInv W0 x L w) (hlo : lo ≤ w.heap.size) (hM : MemAt w' w.heap.size (fun j => j = w.heap.size) Mem.empty) : MadeM k lo (.pointer (some ⟨w.heap.size, 0, none⟩)) (Reg.dset x k w.heap.size) w' := by
  refine ⟨w.heap.size, rfl, if_pos rfl, hlo, hM, fun j b' hj e => ?_⟩
  unfold Reg.dset at e
  rw [if_neg hj] at e
  have := hI.2.1 j b' e
  omega
/-- A list with nothing in it, that one operation of a region made. -/
def MadeE (k q lo : Nat) (v : Value) (x : Nat → Option Nat) (w : World) : Prop :=
  ∃ b, v = .slice (some ⟨b, 0, none⟩) 0 0 ∧ x k = some b ∧ lo ≤ b ∧ Flat q w b 0 0 [] ∧ ∀ j b', j ≠ k → x j = some b' → b' ≠ b
theorem MadeE.kept {k q lo : Nat} {v : Value} {x x' : Nat → Option Nat} {w w' : World} (hp : Reg.DPres x w x' w') (h : MadeE k q lo v x w) : MadeE k q lo v x' w' := by
  obtain ⟨b, h1, h2, h3, h4, h5⟩ := h
  exact ⟨b, h1, hp.2.1 _ _ h2, h3, h4.but (S := fun _ => False) (But.of_below hp.1) id, fun j b' hj e => (hp.2.2 j b' e).elim (h5 j b' hj) (fun h => by have := h4.lt; omega)⟩
theorem MadeE.new {k q lo : Nat} {x : Nat → Option Nat} {w W0 : World} {L : Array Bool} {t : TypeId} (hI : Reg.DInv W0 x L w) (hlo : lo ≤ w.heap.size) : MadeE k q lo (.slice (some ⟨w.heap.size, 0, none⟩) 0 0) (Reg.dset x k w.heap.size) (w.alloc (.cells #[] t)) := by
  refine ⟨w.heap.size, rfl, if_pos rfl, hlo, Flat.new w [] t q 0 (by simp) (Nat.zero_le _) (fun u hu => by cases hu), fun j b' hj e => ?_⟩
  unfold Reg.dset at e
  rw [if_neg hj] at e
  have := hI.2.1 j b' e
  omega
end Go.Proofs.Ytdghgmaoamjnlaa

namespace Go.Proofs.Ytdghgmaoamjnlaa
open Go.RowKit Go.Sort
namespace Ar

theorem getD_false {L : Array Bool} {i : Nat} (h : L.getD i true = false) : L.getD i false = false := by
  rw [Array.getD_eq_getD_getElem?] at *
  cases e : L[i]? with
  | none => simp
  | some b => rw [e] at h; simpa using h
theorem getD_set_ne {L : Array Bool} {k j : Nat} (h : j ≠ k) : (L.setIfInBounds k true).getD j false = L.getD j false := by
  rw [Array.getD_eq_getD_getElem?, Array.getD_eq_getD_getElem?, Array.getElem?_setIfInBounds, if_neg (fun e => h e.symm)]
theorem getD_set_same {L : Array Bool} {k : Nat} (h : L.getD k true = false) : (L.setIfInBounds k true).getD k false = true := by
  have hk : k < L.size := by
    rcases Nat.lt_or_ge k L.size with e | e
    · exact e
    · rw [Array.getD_eq_getD_getElem?, Array.getElem?_eq_none e] at h; cases h
  rw [Array.getD_eq_getD_getElem?, Array.getElem?_setIfInBounds, if_pos rfl, if_pos hk]; rfl
theorem out_skip {P : Program} {K : Value → World → Prop} {ev : Operand → Value} {o : Oper} {w w' : World} (hrun : (execOp ev o).run P w = .ok .skip w') (hk : K undef w') : Reg.Outcome P K ((execOp ev o).run P w) := by
  rw [hrun]; exact hk

/-- What the memory owns; where the answer's box lies. -/
abbrev Gh := (Nat → Prop) × Option Nat
def Pres (x : Gh) (_ : World) (x' : Gh) (_ : World) : Prop := ∀ b, x.2 = some b → x'.2 = some b
theorem Pres.refl (x : Gh) (w w' : World) : Pres x w x w' := fun _ h => h

/-- While it goes on: iA is the operation's number, iL the box's, iS the store's. -/
structure GI (w0 wS : World) (OS : Nat → Prop) (sb : Nat) (ls : List Value) (mb : Nat) (M0 M1 : Mem) (A : Ans) (iA iL iS : Nat) (x : Gh) (L : Array Bool) (w : World) : Prop where
  st : St w0 w sb ls mb x.1 (if L.getD iA false = true then M1 else M0)
  no : L.getD iL false = false → x.2 = none
  yes : L.getD iL false = true → ∃ bx, x.2 = some bx
  chg : But OS wS w
  grow : Grown OS wS w x.1
  box : ∀ bx, x.2 = some bx → wS.heap.size ≤ bx ∧ w0.heap.size ≤ bx ∧ ¬ x.1 bx ∧ bx ≠ sb ∧ BoxAt w bx (if L.getD iS false = true then A.l else Ans.zero.l)
section
variable {w0 wS : World} {OS : Nat → Prop} {sb mb iA iL iS : Nat} {ls : List Value} {M0 M1 : Mem} {A : Ans} {x : Gh} {L : Array Bool} {w w' : World} {O : Nat → Prop}
theorem GI.start (h : St w0 w sb ls mb O M0) (n : Nat) : GI w0 w O sb ls mb M0 M1 A iA iL iS (O, none) (Array.replicate n false) w.drew := by
  have hz : ∀ i, (Array.replicate n false).getD i false = false := fun i => by
    rw [Array.getD_eq_getD_getElem?, Array.getElem?_replicate]
    split <;> rfl
  refine ⟨?_, fun _ => rfl, fun e => ?_, (But.refl _ _).drew, Grown.refl _ _ _, fun bx hx => by cases hx⟩
  · rw [hz]; exact h.below (Below.refl _ _).drew
  · rw [hz] at e; cases e
theorem GI.quiet (h : GI w0 wS OS sb ls mb M0 M1 A iA iL iS x L w) (i : Nat) (h1 : iA ≠ i) (h2 : iL ≠ i) (h3 : iS ≠ i) : GI w0 wS OS sb ls mb M0 M1 A iA iL iS x (L.setIfInBounds i true) w := by
  refine ⟨?_, ?_, ?_, h.chg, h.grow, ?_⟩
  · rw [getD_set_ne h1]; exact h.st
  · rw [getD_set_ne h2]; exact h.no
  · rw [getD_set_ne h2]; exact h.yes
  · rw [getD_set_ne h3]; exact h.box
theorem GI.below (h : GI w0 wS OS sb ls mb M0 M1 A iA iL iS x L w) (hb : Below w.heap.size w w') : GI w0 wS OS sb ls mb M0 M1 A iA iL iS x L w' :=
  ⟨h.st.below hb, h.no, h.yes, h.chg.trans (But.of_below hb), fun k hk => (h.grow k hk).imp id (fun q => ⟨q.1, Nat.lt_of_lt_of_le q.2 hb.size⟩), fun bx hx => ⟨(h.box bx hx).1, (h.box bx hx).2.1, (h.box bx hx).2.2.1, (h.box bx hx).2.2.2.1, (h.box bx hx).2.2.2.2.below hb⟩⟩
theorem GI.mem0 (h : GI w0 wS OS sb ls mb M0 M1 A iA iL iS x L w) (hk : L.getD iA true = false) : MemAt w mb x.1 M0 := by
  have := h.st.mem
  rw [getD_false hk] at this
  exact this
theorem GI.call (h : GI w0 wS OS sb ls mb M0 M1 A iA iL iS x L w) (hk : L.getD iA true = false) (h2 : iL ≠ iA) (h3 : iS ≠ iA) {O' : Nat → Prop} (hM : MemAt w' mb O' M1) (hG : Grown x.1 w w' O') (hB : But x.1 w w') :
    GI w0 wS OS sb ls mb M0 M1 A iA iL iS (O', x.2) (L.setIfInBounds iA true) w' := by
  refine ⟨?_, ?_, ?_, h.chg.then hB (fun k hk e => (h.grow k e).elim id (fun q => by omega)), h.grow.trans hG h.chg.size hB.size, ?_⟩
  · rw [getD_set_same hk, if_pos rfl]
    exact h.st.call hM hG hB
  · rw [getD_set_ne h2]; exact h.no
  · rw [getD_set_ne h2]; exact h.yes
  · rw [getD_set_ne h3]
    intro bx hx
    obtain ⟨a0, a, b, c, d⟩ := h.box bx hx
    refine ⟨a0, a, fun e => ?_, c, d.but hB b⟩
    rcases hG bx e with q | q
    · exact b q
    · have := d.lt; omega
theorem GI.alloc (h : GI w0 wS OS sb ls mb M0 M1 A iA iL iS x L w) (hk : L.getD iL true = false) (hS : L.getD iS false = false) (h1 : iA ≠ iL) (h3 : iS ≠ iL) (t : TypeId) :
    GI w0 wS OS sb ls mb M0 M1 A iA iL iS (x.1, some w.heap.size) (L.setIfInBounds iL true) (w.alloc (.cells Ans.zero.l.toArray t)) := by
  refine ⟨?_, ?_, ?_, h.chg.alloc _, fun k hk => (h.grow k hk).imp id (fun q => ⟨q.1, by rw [World.size_alloc]; omega⟩), ?_⟩
  · rw [getD_set_ne h1]; exact h.st.alloc _
  · rw [getD_set_same hk]; intro e; cases e
  · intro _; exact ⟨_, rfl⟩
  · intro bx hx
    cases hx
    rw [getD_set_ne h3, hS]
    refine ⟨h.chg.size, h.st.low.size, fun e => ?_, fun e => ?_, BoxAt.new w Ans.zero.l t⟩
    · have := h.st.mem.lt _ e; omega
    · have := h.st.box.lt; omega
theorem GI.store (h : GI w0 wS OS sb ls mb M0 M1 A iA iL iS x L w) (hk : L.getD iS true = false) (h1 : iA ≠ iS) (h2 : iL ≠ iS) {bx : Nat} (hx : x.2 = some bx) : GI w0 wS OS sb ls mb M0 M1 A iA iL iS x (L.setIfInBounds iS true) (setBox w bx A.s) := by
  obtain ⟨a0, a, b, c, d⟩ := h.box bx hx
  rw [getD_false hk] at d
  have hb := setBox_but bx A.s w
  refine ⟨?_, ?_, ?_, h.chg.then hb (fun k hk e => by omega), fun k hk => (h.grow k hk).imp id (fun q => ⟨q.1, by rw [setBox_size]; exact q.2⟩), ?_⟩
  · rw [getD_set_ne h1]
    exact ⟨h.st.mem.but hb (fun k hk e => b (e ▸ hk)), h.st.own, h.st.box.but hb (fun e => c e.symm), h.st.low.trans (hb.below h.st.low.size (fun k e => by omega))⟩
  · rw [getD_set_ne h2]; exact h.no
  · rw [getD_set_ne h2]; exact h.yes
  · intro by_ hy
    rw [hx] at hy
    cases hy
    rw [getD_set_same hk, if_pos rfl]
    exact ⟨a0, a, b, c, setBox_box A.s d⟩
end
end Ar
end Go.Proofs.Ytdghgmaoamjnlaa

namespace Go.Proofs.Ytdghgmaoamjnlaa
open Go.RowKit Go.Sort
namespace Er

/-- While it goes on: iA is the step's number, iL the box's, iS the store's. -/
structure GI (wS : World) (b fb : Nat) (O P : Nat → Prop) (r : Mem × Fr × Ans × Bool) (iA iL iS : Nat) (x : Ar.Gh) (L : Array Bool) (w : World) : Prop where
  st : if L.getD iA false = true then (∃ O' P', MemAt w b O' r.1 ∧ FrAt w fb P' r.2.1 ∧ (∀ k, O' k → ¬ P' k) ∧ Grown O wS w O' ∧ Grown P wS w P' ∧ x.1 = fun k => O' k ∨ P' k) else Below wS.heap.size wS w
  no : L.getD iL false = false → x.2 = none
  yes : L.getD iL false = true → ∃ bx, x.2 = some bx
  chg : But (fun k => O k ∨ P k) wS w
  grow : ∀ k, O k ∨ P k → k < wS.heap.size
  box : ∀ bx, x.2 = some bx → wS.heap.size ≤ bx ∧ True ∧ (L.getD iA false = true → ¬ x.1 bx) ∧ True ∧ BoxAt w bx (if L.getD iS false = true then r.2.2.1.l else Ans.zero.l)
section
variable {wS : World} {O P : Nat → Prop} {b fb iA iL iS : Nat} {r : Mem × Fr × Ans × Bool} {x : Ar.Gh} {L : Array Bool} {w w' : World}
theorem Grown.up {O O' : Nat → Prop} {wS w w' : World} (h : Grown O wS w O') (hs : w.heap.size ≤ w'.heap.size) : Grown O wS w' O' := fun k hk => (h k hk).imp id (fun q => ⟨q.1, by omega⟩)
theorem GI.start (wS : World) (b fb : Nat) (O P : Nat → Prop) (r : Mem × Fr × Ans × Bool) (iA iL iS : Nat) (hlt : ∀ k, O k ∨ P k → k < wS.heap.size) (n : Nat) : GI wS b fb O P r iA iL iS (O, none) (Array.replicate n false) wS.drew := by
  have hz : ∀ i, (Array.replicate n false).getD i false = false := fun i => by
    rw [Array.getD_eq_getD_getElem?, Array.getElem?_replicate]
    split <;> rfl
  refine ⟨?_, fun _ => rfl, fun e => ?_, (But.refl _ _).drew, hlt, fun bx hx => by cases hx⟩
  · rw [hz]; exact (Below.refl _ _).drew
  · rw [hz] at e; cases e
theorem GI.quiet (h : GI wS b fb O P r iA iL iS x L w) (i : Nat) (h1 : iA ≠ i) (h2 : iL ≠ i) (h3 : iS ≠ i) : GI wS b fb O P r iA iL iS x (L.setIfInBounds i true) w := by
  refine ⟨?_, ?_, ?_, h.chg, h.grow, ?_⟩
  · rw [Ar.getD_set_ne h1]; exact h.st
  · rw [Ar.getD_set_ne h2]; exact h.no
  · rw [Ar.getD_set_ne h2]; exact h.yes
  · rw [Ar.getD_set_ne h3, Ar.getD_set_ne h1]; exact h.box
theorem GI.pre (h : GI wS b fb O P r iA iL iS x L w) (hk : L.getD iA true = false) : Below wS.heap.size wS w := by
  have := h.st
  rw [Ar.getD_false hk] at this
  exact this
theorem GI.call (h : GI wS b fb O P r iA iL iS x L w) (hk : L.getD iA true = false) (h2 : iL ≠ iA) (h3 : iS ≠ iA) {O' P' : Nat → Prop} (hM : MemAt w' b O' r.1) (hF : FrAt w' fb P' r.2.1) (hd : ∀ k, O' k → ¬ P' k) (hO : Grown O w w' O') (hP : Grown P w w' P') (hB : But (fun k => O k ∨ P k) w w') :
    GI wS b fb O P r iA iL iS (fun k => O' k ∨ P' k, x.2) (L.setIfInBounds iA true) w' := by
  have hp := h.pre hk
  have hs := hp.size
  refine ⟨?_, ?_, ?_, h.chg.trans hB, h.grow, ?_⟩
  · rw [Ar.getD_set_same hk, if_pos rfl]
    refine ⟨O', P', hM, hF, hd, fun k hk => ?_, fun k hk => ?_, rfl⟩
    · exact (hO k hk).imp id (fun q => ⟨by omega, q.2⟩)
    · exact (hP k hk).imp id (fun q => ⟨by omega, q.2⟩)
  · rw [Ar.getD_set_ne h2]; exact h.no
  · rw [Ar.getD_set_ne h2]; exact h.yes
  · rw [Ar.getD_set_ne h3]
    intro bx hx
    obtain ⟨a, _, _, _, d⟩ := h.box bx hx
    have hn : ¬ (O bx ∨ P bx) := fun e => by have := h.grow bx e; omega
    have hl := d.lt
    refine ⟨a, trivial, fun _ e => ?_, trivial, d.but hB hn⟩
    rcases e with e | e
    · rcases hO bx e with q | q
      · exact hn (.inl q)
      · omega
    · rcases hP bx e with q | q
      · exact hn (.inr q)
      · omega
theorem GI.alloc (h : GI wS b fb O P r iA iL iS x L w) (hk : L.getD iL true = false) (hS : L.getD iS false = false) (h1 : iA ≠ iL) (h3 : iS ≠ iL) (t : TypeId) :
    GI wS b fb O P r iA iL iS (x.1, some w.heap.size) (L.setIfInBounds iL true) (w.alloc (.cells Ans.zero.l.toArray t)) := by
  have hba : Below w.heap.size w (w.alloc (.cells Ans.zero.l.toArray t)) := (Below.refl _ _).alloc (Nat.le_refl _) _
  refine ⟨?_, ?_, ?_, h.chg.alloc _, h.grow, ?_⟩
  · rw [Ar.getD_set_ne h1]
    have hst := h.st
    split at hst
    case isTrue e =>
      rw [if_pos e]
      obtain ⟨O', P', a1, a2, a3, a4, a5, a6⟩ := hst
      exact ⟨O', P', a1.below hba, a2.below hba, a3, Grown.up a4 hba.size, Grown.up a5 hba.size, a6⟩
    case isFalse e =>
      rw [if_neg e]
      exact hst.trans (hba.mono hst.size)
  · rw [Ar.getD_set_same hk]; intro e; cases e
  · intro _; exact ⟨_, rfl⟩
  · intro bx hx
    cases hx
    rw [Ar.getD_set_ne h3, Ar.getD_set_ne h1, hS]
    refine ⟨h.chg.size, trivial, fun e => ?_, trivial, BoxAt.new w Ans.zero.l t⟩
    have hst := h.st
    rw [if_pos e] at hst
    obtain ⟨O', P', a1, a2, a3, a4, a5, a6⟩ := hst
    show ¬ x.1 w.heap.size
    rw [a6]
    rintro (q | q)
    · exact absurd (a1.lt _ q) (Nat.lt_irrefl _)
    · exact absurd (a2.lt _ q) (Nat.lt_irrefl _)
theorem GI.store (h : GI wS b fb O P r iA iL iS x L w) (hk : L.getD iS true = false) (h1 : iA ≠ iS) (h2 : iL ≠ iS) {bx : Nat} (hx : x.2 = some bx) : GI wS b fb O P r iA iL iS x (L.setIfInBounds iS true) (setBox w bx r.2.2.1.s) := by
  obtain ⟨a, _, bn, _, d⟩ := h.box bx hx
  rw [Ar.getD_false hk] at d
  have hb := setBox_but bx r.2.2.1.s w
  refine ⟨?_, ?_, ?_, h.chg.then hb (fun k hk e => by omega), h.grow, ?_⟩
  · rw [Ar.getD_set_ne h1]
    have hst := h.st
    split at hst
    case isTrue e =>
      rw [if_pos e]
      obtain ⟨O', P', a1, a2, a3, a4, a5, a6⟩ := hst
      have hn := bn e
      rw [a6] at hn
      exact ⟨O', P', a1.but hb (fun k hk e => hn (.inl (e ▸ hk))), a2.but hb (fun k hk e => hn (.inr (e ▸ hk))), a3, Grown.up a4 hb.size, Grown.up a5 hb.size, a6⟩
    case isFalse e =>
      rw [if_neg e]
      exact hst.trans (hb.below hst.size (fun k e => by omega))
  · rw [Ar.getD_set_ne h2]; exact h.no
  · rw [Ar.getD_set_ne h2]; exact h.yes
  · intro by_ hy
    rw [hx] at hy
    cases hy
    rw [Ar.getD_set_same hk, if_pos rfl, Ar.getD_set_ne h1]
    exact ⟨a, trivial, bn, trivial, setBox_box r.2.2.1.s d⟩
end
end Er
end Go.Proofs.Ytdghgmaoamjnlaa
