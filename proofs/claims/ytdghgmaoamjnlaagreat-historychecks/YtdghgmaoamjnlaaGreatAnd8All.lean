/-
  Layer 14: which calls were done, in the order in which they were: contract.
  Layer 14: which calls were done, in the order in which they were: the contract of Done.
  Layer 14's laws: the places of calls that were done, as the document finds them one by one.
  Layer 14's laws: which calls were done, in the order in which they were, by the document: contract.
  The last eight bits of a number.
-/
import Derived.Test.YtdghgmaoamjnlaaGreatTailAll
import Derived.Test.YtdghgmaoamjnlaaGreatInsIt
import Derived.Test.YtdghgmaoamjnlaaGreatPileWAll
import Derived.Test.YtdghgmaoamjnlaaGreatWireAAll
import Derived.StillTailTactics
import Derived.Test.YtdghgmaoamjnlaaGreatOp6All
import Derived.Test.YtdghgmaoamjnlaaGreatKNew9All
import Derived.Test.YtdghgmaoamjnlaaGreatRChk14All
namespace Go.Proofs.YtdghgmaoamjnlaaGreat
open Go.RowKit Go.Sort Go.Lib

theorem cisNaNn_any (x : Int) (w : World) : Calls Tryz.prog 123 #[.int .i64 x] w fun e w' => e = .returned (.bool false) ∧ w' = w := by
  go_enter Tryz.func123, Tryz.ntmps123
  go_wp2
  go_ret
  exact ⟨rfl, rfl⟩
theorem comparen_any (x y : Int) (w : World) : Calls Tryz.prog 89 #[.int .i64 x, .int .i64 y] w fun e w' => e = .returned (.int .i64 (cmpI x y)) ∧ w' = w := by
  rcases Int.lt_trichotomy x y with h | h | h
  · rw [cmpI_lt h]
    go_enter Tryz.func89, Tryz.ntmps89
    go_wp2_with (go_at_call 123; refine (cisNaNn_any _ _).mono ?_; rintro e w' ⟨rfl, rfl⟩)
    go_ret
    exact ⟨rfl, rfl⟩
  · rw [cmpI_eq h]
    subst h
    go_enter Tryz.func89, Tryz.ntmps89
    go_wp2_with (go_at_call 123; refine (cisNaNn_any _ _).mono ?_; rintro e w' ⟨rfl, rfl⟩)
    go_ret
    exact ⟨rfl, rfl⟩
  · rw [cmpI_gt h]
    have h' : ¬ x < y := by omega
    go_enter Tryz.func89, Tryz.ntmps89
    go_wp2_with (go_at_call 123; refine (cisNaNn_any _ _).mono ?_; rintro e w' ⟨rfl, rfl⟩)
    go_ret
    exact ⟨rfl, rfl⟩

/-- By which step a call was done. -/
def finE (L : List Cl) (i : Nat) : Int := ((L[i]?).map Cl.fin).getD 0
theorem finE_of {L : List Cl} {i : Nat} {c : Cl} (h : L[i]? = some c) : finE L i = c.fin := by unfold finE; rw [h]; rfl
def encF (k : Nat) (i : Fin (k + 1)) : Value := .int .i64 (i.val : Int)
def cfF (L : List Cl) (k : Nat) (x y : Fin (k + 1)) : Int := cmpI (finE L x.val) (finE L y.val)
theorem lt_cf (L : List Cl) (k : Nat) : ltOf (cfF L k) = ltE (fun i : Fin (k + 1) => finE L i.val) := by
  funext x y
  show decide (cmpI (finE L x.val) (finE L y.val) < 0) = decide (finE L x.val < finE L y.val)
  rcases Int.lt_trichotomy (finE L x.val) (finE L y.val) with h | h | h
  · rw [cmpI_lt h, decide_eq_true h]; rfl
  · rw [cmpI_eq h, decide_eq_false (show ¬ finE L x.val < finE L y.val by omega)]; rfl
  · rw [cmpI_gt h, decide_eq_false (show ¬ finE L x.val < finE L y.val by omega)]; rfl

set_option maxRecDepth 20000 in
set_option maxHeartbeats 2000000 in
theorem doneCl_any (L : List Cl) (k g cap sb : Nat) (W : World) (hL : L.length = k + 1) (hF : Flat 12 W g cap (k + 1) (flatCl L)) (hB : BoxAt W sb [.slice (some ⟨g, 0, none⟩) (k + 1) cap]) (x y : Fin (k + 1)) :
    Calls Tryz.prog 88 #[.int .i64 (x.val : Int), .int .i64 (y.val : Int), .pointer (some ⟨sb, 0, none⟩)] W fun e w' => e = .returned (.int .i64 (cfF L k x y)) ∧ ∃ q os', w' = grow (W.drewN q) os' := by
  obtain ⟨i, hi⟩ := x
  obtain ⟨j, hj⟩ := y
  obtain ⟨c, hc⟩ : ∃ c, L[i]? = some c := ⟨_, List.getElem?_eq_getElem (by omega)⟩
  obtain ⟨d, hd⟩ : ∃ d, L[j]? = some d := ⟨_, List.getElem?_eq_getElem (by omega)⟩
  have f1 := hF.cell (i * 12 + 7) (.int .i64 c.fin) (by rw [flatCl_get L i 7 c hc (by decide)]; rfl)
  have f2 := hF.cell (j * 12 + 7) (.int .i64 d.fin) (by rw [flatCl_get L j 7 d hd (by decide)]; rfl)
  obtain ⟨f0, _⟩ := hB.get 0 _ rfl
  have hbl := hB.lt
  have hgl := hF.lt
  obtain ⟨n, hn⟩ : ∃ n, k + 1 = n := ⟨_, rfl⟩
  have hiI : (i : Int) < (n : Int) := by omega
  have hjI : (j : Int) < (n : Int) := by omega
  have hin : i < n := by omega
  have hjn : j < n := by omega
  rw [hn] at f0
  have hC := hidq (fun w => comparen_any c.fin d.fin w)
  have he : cfF L k ⟨i, hi⟩ ⟨j, hj⟩ = cmpI c.fin d.fin := by unfold cfF; rw [finE_of hc, finE_of hd]
  rw [he]
  obtain ⟨v, hv⟩ : ∃ v, cmpI c.fin d.fin = v := ⟨_, rfl⟩
  rw [hv] at hC ⊢
  clear he hv hc hd hF hB hL hn
  show Calls Tryz.prog 88 #[.int .i64 (i : Int), .int .i64 (j : Int), .pointer (some ⟨sb, 0, none⟩)] W _
  go_enter Tryz.func88, Tryz.ntmps88
  go_wp2
  go_still_tail 10, (by kernel_rfl)
  go_wp2_with fail
  refine (hC.out _).mono ?_
  rintro e w1 ⟨rfl, hw1⟩
  subst w1
  go_wp2_with fail
  go_ret
  exact ⟨rfl, 1, #[], by rw [grow_empty]; rfl⟩
theorem but_sort1 {α : Type} [Inhabited α] (enc : α → Value) (w : World) (g n : Nat) (d : Array α) (os : Array Obj) : But (fun k => k = g) w (sortWorld enc w g 0 n d os) := by
  refine ⟨rfl, rfl, rfl, ?_, ?_⟩
  · unfold sortWorld
    rw [size_grow, size_putRow]
    exact Nat.le_add_right _ _
  · intro k hk hn
    unfold sortWorld
    rw [heap_grow_old _ _ (by rw [size_putRow]; exact hk)]
    unfold putRow mapBlock
    show (w.heap.modify g _)[k]? = _
    rw [Array.getElem?_modify, if_neg (fun e => hn e.symm)]
theorem sw_but {α : Type} [Inhabited α] {enc : α → Value} {w W : World} {g : Nat} {d : Array α} (h : SW enc w g 0 d W) : But (fun k => k = g) w W := by
  obtain ⟨m, os, rfl⟩ := h
  exact but_sort1 enc w g m d os
section
variable (L : List Cl) (k g cap sb blk bc : Nat) (d0 : Array (Fin (k + 1))) (w0 : World)
/-- What the sort is told. -/
structure Srt14 : Prop where
  len : L.length = k + 1
  flat : Flat 12 w0 g cap (k + 1) (flatCl L)
  box : BoxAt w0 sb [.slice (some ⟨g, 0, none⟩) (k + 1) cap]
  row : Row1 (encF k) w0 blk 0 d0
  ng : g ≠ blk
  ns : sb ≠ blk
theorem insert_any (h : Srt14 L k g cap sb blk d0 w0) (a b : Nat) (d : Array (Fin (k + 1))) (w : World) (hs : d0.size = d.size) (S : SW (encF k) w0 blk 0 d w) (hab : a ≤ b) (hb : b ≤ d.size) (hd : d.size ≤ 20) (n : Nat) (hn : d.size = n) :
    Calls Tryz.prog 151 #[.slice (some ⟨blk, 0, none⟩) n bc, .int .i64 (a : Int), .int .i64 (b : Int), .func (.func 88) #[] #[.pointer (some ⟨sb, 0, none⟩)]] w fun e w' =>
      e = .returned (.tuple #[]) ∧ SW (encF k) w0 blk 0 (insertionSort (ltE (fun i : Fin (k + 1) => finE L i.val)) d a b) w' := by
  have eg : ∀ args w, (callFunc 88 args).run Tryz.prog w = .ok (.enter 88 args) w := enters_of Tryz.func88 (by kernel_rfl) rfl
  have hC : CmpLays1 Tryz.prog 88 #[.pointer (some ⟨sb, 0, none⟩)] (encF k) (cfF L k) blk 0 d0.size w0 := fun m os dk _ x y => by
    have hb := but_sort1 (encF k) w0 blk m dk os
    exact doneCl_any L k g cap sb _ h.len (h.flat.but hb h.ng) (h.box.but hb h.ns) x y
  have := Any.insertionSortCmpFunc_s Tryz.insIt (encF k) (cfF L k) 88 #[.pointer (some ⟨sb, 0, none⟩)] blk 0 bc a b d0 d w0 w eg hC h.row hs S hab hb (by omega)
  rw [lt_cf, hn] at this
  exact this
set_option maxRecDepth 20000 in
set_option maxHeartbeats 2000000 in
theorem stab_any (h : Srt14 L k g cap sb blk d0 w0) (n : Nat) (hn : d0.size = n) (hn20 : n ≤ 20) :
    Calls Tryz.prog 122 #[.slice (some ⟨blk, 0, none⟩) n bc, .int .i64 (n : Int), .func (.func 88) #[] #[.pointer (some ⟨sb, 0, none⟩)]] w0 fun e w' =>
      e = .returned (.tuple #[]) ∧ SW (encF k) w0 blk 0 (insertionSort (ltE (fun i : Fin (k + 1) => finE L i.val)) d0 0 n) w' := by
  have hsz : (insertionSort (ltE (fun i : Fin (k + 1) => finE L i.val)) d0 0 20).size = d0.size ∨ n ≠ 20 := by
    by_cases e : n = 20
    · refine .inl ?_
      have := (insertionSort_holds (lt := ltE (fun i : Fin (k + 1) => finE L i.val)) ⟨fun x => by unfold ltE; simp, fun x y z a b => by unfold ltE at *; simp at *; omega, fun x y z a b => by unfold ltE at *; simp at *; omega⟩ d0 0 20 (by omega) (by omega)).1.1
      exact this
    · exact .inr e
  have hsame : ∀ d : Array (Fin (k + 1)), insertionSort (ltE (fun i : Fin (k + 1) => finE L i.val)) d 20 20 = d := fun d => by
    unfold insertionSort
    rw [insOuter, if_neg (by omega)]
  have H := hidq h
  have HN := hidq hn
  have HSZ := hidq hsz
  have HSM := hidq hsame
  have HS0 := hidq (show SW (encF k) w0 blk 0 d0 w0 from SW.start h.row.hH)
  clear h hsz hsame
  go_enter Tryz.func122, Tryz.ntmps122
  go_wp2_with fail
  go_loopw [7, 8] (fun s7 s8 wr => ∃ a b : Int, s7 = .int .i64 a ∧ s8 = .int .i64 b ∧ ((a = 0 ∧ b = 20 ∧ Hid (SW (encF k) w0 blk 0 d0 wr)) ∨ (n = 20 ∧ a = 20 ∧ b = 40 ∧ Hid (SW (encF k) w0 blk 0 (insertionSort (ltE (fun i : Fin (k + 1) => finE L i.val)) d0 0 n) wr)))) (fun _ s8 _ => 40 - (intOf s8).toNat)
  case atStart => exact ⟨0, 20, rfl, rfl, .inl ⟨rfl, rfl, HS0⟩⟩
  case round =>
    clear HS0
    obtain ⟨a, b, rfl, rfl, hc⟩ := hrel
    rcases hc with ⟨rfl, rfl, hX⟩ | ⟨h20, rfl, rfl, hX⟩
    · by_cases hlt : n = 20
      · have hle : (20 : Int) ≤ (n : Int) := by omega
        have hle2 : 20 ≤ n := by omega
        have hI := hidq (insert_any L k g cap sb blk bc d0 w0 H.out 0 20 d0 wr rfl hX.out (by decide) (by omega) (by omega) n hn)
        have HLT := hidq hlt
        clear hX hn hlt
        go_wp2_with fail
        refine (hI.out).mono ?_
        rintro e w2 ⟨rfl, hS2⟩
        have HS2 := hidq hS2
        clear hS2 hI
        go_wp2_with fail
        go_roundw
        case rel => exact ⟨20, 40, rfl, rfl, .inr ⟨HLT.out, rfl, rfl, hidq (by have h := HS2.out; rw [HLT.out]; exact h)⟩⟩
        case measure => simp [intOf]
      · have hd1 : decide ((20 : Int) ≤ (n : Int)) = false := decide_eq_false (by omega)
        have hd2 : decide (20 ≤ n) = false := decide_eq_false (by omega)
        have hI := hidq (insert_any L k g cap sb blk bc d0 w0 H.out 0 n d0 wr rfl hX.out (Nat.zero_le _) (by omega) (by omega) n hn)
        clear hX hn
        go_wp2_with fail
        refine (hI.out).mono ?_
        rintro e w2 ⟨rfl, HS3⟩
        clear hI hd1 hd2
        obtain ⟨w6, h6⟩ : ∃ w6, w6 = wr := ⟨_, rfl⟩
        subst h6
        go_wp2_with fail
        go_loopw [6] (fun s6 wr => s6 = .int .i64 20 ∧ Hid (SW (encF k) w0 blk 0 (insertionSort (ltE (fun i : Fin (k + 1) => finE L i.val)) d0 0 n) wr)) (fun _ _ => 0)
        case atStart => exact ⟨rfl, hidq HS3⟩
        case round =>
          obtain ⟨rfl, hZ⟩ := hrel
          have hd9 : decide ((20 : Int) < (n : Int)) = false := decide_eq_false (by omega)
          have hd8 : decide (20 < n) = false := decide_eq_false (by omega)
          go_wp2_with fail
          exact bodyPost_end (results_none Tryz.results122 _ _ _) rfl ⟨rfl, hZ.out⟩
    · have hd1 : decide ((40 : Int) ≤ (n : Int)) = false := decide_eq_false (by omega)
      have hd2 : decide (40 ≤ n) = false := decide_eq_false (by omega)
      have hsz2 : (insertionSort (ltE (fun i : Fin (k + 1) => finE L i.val)) d0 0 20).size = n := by
        rcases HSZ.out with e | e
        · rw [e]; exact hn
        · exact absurd h20 e
      have hI := hidq (insert_any L k g cap sb blk bc d0 w0 H.out 20 n (insertionSort (ltE (fun i : Fin (k + 1) => finE L i.val)) d0 0 20) wr (by rw [hsz2]; exact hn) (by have h := hX.out; rw [h20] at h; exact h) (by omega) (by omega) (by omega) n hsz2)
      have hsm : ∀ d : Array (Fin (k + 1)), insertionSort (ltE (fun i : Fin (k + 1) => finE L i.val)) d 20 n = d := fun d => by rw [h20]; exact HSM.out d
      rw [hsm] at hI
      clear hsm
      have HI := hidq hI
      have hn21 : ¬ 20 < n := by omega
      have HLT := hidq h20
      clear hX hn hsz2 hI h20
      go_wp2_with fail
      refine (HI.out).mono ?_
      rintro e w2 ⟨rfl, HS3⟩
      clear HI
      obtain ⟨w6, h6⟩ : ∃ w6, w6 = wr := ⟨_, rfl⟩
      subst h6
      go_wp2_with fail
      go_loopw [6] (fun s6 wr => s6 = .int .i64 20 ∧ Hid (SW (encF k) w0 blk 0 (insertionSort (ltE (fun i : Fin (k + 1) => finE L i.val)) d0 0 20) wr)) (fun _ _ => 0)
      case atStart => exact ⟨rfl, hidq HS3⟩
      case round =>
        obtain ⟨rfl, hZ⟩ := hrel
        go_wp2_with fail
        exact bodyPost_end (results_none Tryz.results122 _ _ _) rfl ⟨rfl, by rw [HLT.out]; exact hZ.out⟩
theorem sortst_any (h : Srt14 L k g cap sb blk d0 w0) (n : Nat) (hn : d0.size = n) (hn20 : n ≤ 20) :
    Calls Tryz.prog 87 #[.slice (some ⟨blk, 0, none⟩) n bc, .func (.func 88) #[] #[.pointer (some ⟨sb, 0, none⟩)]] w0 fun e w' =>
      e = .returned (.tuple #[]) ∧ SW (encF k) w0 blk 0 (insertionSort (ltE (fun i : Fin (k + 1) => finE L i.val)) d0 0 n) w' := by
  have hS := hidq (stab_any L k g cap sb blk bc d0 w0 h n hn hn20)
  clear h hn
  go_enter Tryz.func87, Tryz.ntmps87
  go_wp2_with fail
  refine (hS.out).mono ?_
  rintro e w2 ⟨rfl, h2⟩
  have H2 := hidq h2
  clear h2 hS
  go_wp2_with fail
  exact bodyPost_end (results_none Tryz.results87 _ _ _) rfl ⟨rfl, H2.out⟩
end
/-- The sort of nothing. -/
theorem insert0_any (f : Value) (w : World) : Calls Tryz.prog 151 #[.slice none 0 0, .int .i64 0, .int .i64 0, f] w fun e w' => e = .returned (.tuple #[]) ∧ w' = w := by
  go_enter Tryz.func151, Tryz.ntmps151
  go_wp2_with fail
  go_loopw [8] (fun s8 wr => s8 = .int .i64 1 ∧ wr = w) (fun _ _ => 0)
  case atStart => exact ⟨rfl, rfl⟩
  case round =>
    obtain ⟨rfl, rfl⟩ := hrel
    go_wp2_with fail
    exact bodyPost_end (results_none Tryz.results151 _ _ _) rfl ⟨rfl, rfl⟩
theorem stab0_any (f : Value) (w : World) : Calls Tryz.prog 122 #[.slice none 0 0, .int .i64 0, f] w fun e w' => e = .returned (.tuple #[]) ∧ w' = w := by
  have hI := fun w => insert0_any f w
  go_enter Tryz.func122, Tryz.ntmps122
  go_wp2_with fail
  go_loopw [7, 8] (fun s7 s8 wr => s7 = .int .i64 0 ∧ s8 = .int .i64 20 ∧ wr = w) (fun _ _ _ => 0)
  case atStart => exact ⟨rfl, rfl, rfl⟩
  case round =>
    obtain ⟨rfl, rfl, rfl⟩ := hrel
    go_wp2_with fail
    refine (hI _).mono ?_
    rintro e w2 ⟨rfl, hw2⟩
    subst w2
    clear hI
    obtain ⟨w6, h6⟩ : ∃ w6, w6 = wr := ⟨_, rfl⟩
    subst h6
    go_wp2_with fail
    go_loopw [6] (fun s6 wr => s6 = .int .i64 20 ∧ wr = w6) (fun _ _ => 0)
    case atStart => exact ⟨rfl, rfl⟩
    case round =>
      obtain ⟨rfl, rfl⟩ := hrel
      go_wp2_with fail
      exact bodyPost_end (results_none Tryz.results122 _ _ _) rfl ⟨rfl, rfl⟩
theorem sortst0_any (f : Value) (w : World) : Calls Tryz.prog 87 #[.slice none 0 0, f] w fun e w' => e = .returned (.tuple #[]) ∧ w' = w := by
  have hS := fun w => stab0_any f w
  go_enter Tryz.func87, Tryz.ntmps87
  go_wp2_with fail
  refine (hS _).mono ?_
  rintro e w2 ⟨rfl, hw2⟩
  subst w2
  go_wp2_with fail
  exact bodyPost_end (results_none Tryz.results87 _ _ _) rfl ⟨rfl, rfl⟩

/-- Was the call at a place done? -/
def isDn (L : List Cl) (j : Nat) : Bool := ((L[j]?).map Cl.done).getD false
theorem isDn_of {L : List Cl} {i : Nat} {c : Cl} (h : L[i]? = some c) : isDn L i = c.done := by unfold isDn; rw [h]; rfl
/-- The places of those that were, ahead of one. -/
def dns (L : List Cl) (i : Nat) : List Nat := (List.range i).filter (isDn L)
theorem dns_succ (L : List Cl) (i : Nat) : dns L (i + 1) = if isDn L i = true then dns L i ++ [i] else dns L i := by
  unfold dns
  rw [List.range_succ, List.filter_append]
  by_cases h : isDn L i = true
  · rw [if_pos h]; simp [h]
  · rw [if_neg h]; simp [h]
theorem dns_mem {L : List Cl} {i j : Nat} : j ∈ dns L i ↔ j < i ∧ isDn L j = true := by unfold dns; simp [List.mem_filter]
theorem dns_len (L : List Cl) (i : Nat) : (dns L i).length ≤ i := by unfold dns; exact Nat.le_trans (List.length_filter_le _ _) (by simp)
theorem dns_inc (L : List Cl) (i : Nat) : (dns L i).Pairwise (· < ·) := by unfold dns; exact List.Pairwise.filter _ List.pairwise_lt_range
/-- The places of all that were done, in the order in which they were. -/
structure DoneOf (L : List Cl) (S : List Nat) : Prop where
  mem : ∀ j, j ∈ S ↔ (j < L.length ∧ isDn L j = true)
  ord : S.Pairwise (fun x y => finE L x < finE L y ∨ (finE L x = finE L y ∧ x < y))
theorem dns_nil {L : List Cl} (h : dns L L.length = []) : DoneOf L [] := by
  refine ⟨fun j => ⟨fun e => (by cases e), fun e => ?_⟩, List.Pairwise.nil⟩
  have := dns_mem.2 e
  rw [h] at this
  exact this
/-- Places as the sort's. -/
def finA (k : Nat) (P : List Nat) : Array (Fin (k + 1)) := (P.map (fun j => Fin.ofNat (k + 1) j)).toArray
theorem finA_size (k : Nat) (P : List Nat) : (finA k P).size = P.length := by simp [finA]
theorem finA_get {k : Nat} {P : List Nat} (hP : ∀ j ∈ P, j ≤ k) {i x : Nat} (h : P[i]? = some x) : (finA k P)[i]!.val = x := by
  have hi := (List.getElem?_eq_some_iff.1 h).1
  have hx := hP x (List.mem_of_getElem? h)
  rw [getElem!_pos (finA k P) i (by rw [finA_size]; exact hi)]
  unfold finA
  simp only [List.getElem_toArray, List.getElem_map]
  obtain ⟨_, he⟩ := List.getElem?_eq_some_iff.1 h
  rw [he]
  show x % (k + 1) = x
  exact Nat.mod_eq_of_lt (by omega)
theorem doneOf_sort {L : List Cl} {k : Nat} (hL : L.length = k + 1) : DoneOf L ((insertionSort (ltE (fun i : Fin (k + 1) => finE L i.val)) (finA k (dns L L.length)) 0 (dns L L.length).length).toList.map Fin.val) := by
  have hP : ∀ j ∈ dns L L.length, j ≤ k := fun j hj => by have := (dns_mem.1 hj).1; omega
  have hinc : ∀ q m, q < m → m < (finA k (dns L L.length)).size → (finA k (dns L L.length))[q]!.val < (finA k (dns L L.length))[m]!.val := fun q m hq hm => by
    rw [finA_size] at hm
    obtain ⟨x, hx⟩ : ∃ x, (dns L L.length)[q]? = some x := ⟨_, List.getElem?_eq_getElem (by omega)⟩
    obtain ⟨y, hy⟩ : ∃ y, (dns L L.length)[m]? = some y := ⟨_, List.getElem?_eq_getElem hm⟩
    rw [finA_get hP hx, finA_get hP hy]
    obtain ⟨h1, e1⟩ := List.getElem?_eq_some_iff.1 hx
    obtain ⟨h2, e2⟩ := List.getElem?_eq_some_iff.1 hy
    have := (List.pairwise_iff_getElem.1 (dns_inc L L.length)) q m h1 h2 hq
    rw [e1, e2] at this
    exact this
  obtain ⟨_, h2, h3⟩ := stable_sorted (fun i : Fin (k + 1) => finE L i.val) (finA k (dns L L.length)) hinc
  rw [finA_size] at h2 h3
  refine ⟨fun j => ?_, ?_⟩
  · rw [← dns_mem]
    have hm := (h2.map Fin.val).mem_iff (a := j)
    rw [hm]
    have : (finA k (dns L L.length)).toList.map Fin.val = dns L L.length := by
      unfold finA
      simp only [List.map_map]
      conv => rhs; rw [← List.map_id (dns L L.length)]
      apply List.map_congr_left
      intro x hx
      show x % (k + 1) = x
      exact Nat.mod_eq_of_lt (by have := hP x hx; omega)
    rw [this]
  · rw [List.pairwise_map]
    exact h3
end Go.Proofs.YtdghgmaoamjnlaaGreat

namespace Go.Proofs.YtdghgmaoamjnlaaGreat
open Go.RowKit Go.Sort Go.Lib

/-- How Done ends. -/
def DoneEnd (L : List Cl) (w : World) (e : Ending) (w' : World) : Prop :=
  ∃ (S : List Nat) (a2 : Option Addr) (cap2 : Nat), e = .returned (.slice a2 S.length cap2) ∧ NsAt w' a2 (fun _ => False) S ∧ DoneOf L S ∧ Below w.heap.size w w'

set_option maxRecDepth 20000 in
set_option maxHeartbeats 8000000 in
theorem done14_any (L : List Cl) (a : Option Addr) (cap n : Nat) (w : World) (h : SlAt 12 w a cap n (flatCl L)) (hn : L.length = n) (hn20 : n ≤ 20) :
    Calls Tryz.prog 42 #[.slice a n cap] w (DoneEnd L w) := by
  have hsf := run_store_flt (P := Tryz.prog)
  obtain ⟨sb, hsb⟩ : ∃ sb, w.heap.size = sb := ⟨_, rfl⟩
  obtain ⟨W0, hW0⟩ : ∃ W0, w.alloc (.cells #[.slice a n cap] 39) = W0 := ⟨_, rfl⟩
  have hB0 := BoxAt.new w [.slice a n cap] 39
  rw [show w.alloc (.cells [.slice a n cap].toArray 39) = W0 from hW0, hsb] at hB0
  have hb0 : Below w.heap.size w W0 := by rw [← hW0]; exact (Below.refl _ _).alloc (Nat.le_refl _) _
  have hs0 : W0.heap.size = sb + 1 := by rw [← hW0, World.size_alloc, hsb]
  obtain ⟨f0, _⟩ := hB0.get 0 _ rfl
  have hbl := hB0.lt
  have HH := hidq (And.intro (h.below hb0) (And.intro hn (And.intro hb0 (And.intro hB0 hs0))))
  have HALT := hidq h.lt
  have hcap := h.le
  clear h hn hb0 hB0 hs0
  go_enter Tryz.func42, Tryz.ntmps42
  go_wp2_with fail
  go_loopw [3, 8] (fun s3 s8 wr => ∃ (i : Nat) (a2 : Option Addr) (cap2 m : Nat), s3 = .slice a2 m cap2 ∧ s8 = .int .i64 (i : Int) ∧ i ≤ n ∧ Hid (m = (dns L i).length ∧ SlAt 1 wr a2 cap2 m (vals (dns L i)) ∧ (m = 0 → a2 = none ∧ cap2 = 0) ∧ (∀ j, inB a2 j → W0.heap.size ≤ j) ∧ Below W0.heap.size W0 wr)) (fun _ s8 _ => n - (intOf s8).toNat)
  case atStart => exact ⟨0, none, 0, 0, rfl, rfl, Nat.zero_le _, hidq ⟨rfl, SlAt.nil 1 _, fun _ => ⟨rfl, rfl⟩, (fun j hj => by obtain ⟨x, hx, _⟩ := hj; cases hx), Below.refl _ _⟩⟩
  case round =>
    obtain ⟨i, a2, cap2, m, rfl, rfl, hi, hX⟩ := hrel
    by_cases hlt : i < n
    · have hltI : (i : Int) < (n : Int) := by omega
      obtain ⟨h, hn, hb0, hB0, hs0⟩ := HH.out
      obtain ⟨z1, z2, z3, z4, hbw⟩ := hX.out
      obtain ⟨c, hc⟩ : ∃ c, L[i]? = some c := ⟨_, List.getElem?_eq_getElem (by omega)⟩
      have hcell : ∀ j u, c.l[j]? = some u → ∃ g, a = some ⟨g, 0, none⟩ ∧ g < W0.heap.size ∧ W0.cell? ⟨g, i * 12 + j, none⟩ = some u := fun j u hu => by
        have hj : j < 12 := (List.getElem?_eq_some_iff.1 hu).1
        obtain ⟨g, h1, h2, h3⟩ := h.cell (t := i * 12 + j) (u := u) (by rw [flatCl_get L i j c hc hj]; exact hu)
        exact ⟨g, h1, h2, h3⟩
      obtain ⟨g, rfl, hgl, _⟩ := hcell 0 _ rfl
      have hrr : ∀ j u, c.l[j]? = some u → wr.cell? ⟨g, i * 12 + j, none⟩ = some u := fun j u hu => by
        obtain ⟨g', h1, _, h3⟩ := hcell j u hu
        cases h1
        rw [hbw.cell (p := ⟨g, i * 12 + j, none⟩) hgl]; exact h3
      have m0 : wr.cell? ⟨g, i * 12, none⟩ = some (.int .i64 c.thread) := hrr 0 _ rfl
      have m1 := hrr 1 _ rfl
      have m2 := hrr 2 _ rfl
      have m3 := hrr 3 _ rfl
      have m4 := hrr 4 _ rfl
      have m5 := hrr 5 _ rfl
      have m6 := hrr 6 _ rfl
      have m7 := hrr 7 _ rfl
      have m8 := hrr 8 _ rfl
      have m9 := hrr 9 _ rfl
      have m10 := hrr 10 _ rfl
      have m11 := hrr 11 _ rfl
      have hgr : g < wr.heap.size := Nat.lt_of_lt_of_le hgl hbw.size
      obtain ⟨xb, hxb⟩ : ∃ xb, wr.heap.size = xb := ⟨_, rfl⟩
      obtain ⟨W1, hW1⟩ : ∃ W1, wr.alloc (.cells #[.int .i64 c.thread, .int .i64 c.kind, .float .f64 c.pri, .int .i64 c.val, .int .i64 c.d0, .int .i64 c.d1, .int .i64 c.beg, .int .i64 c.fin, .bool c.ans.ok, .float .f64 c.ans.pri, .int .i64 c.ans.val, .int .i64 c.ans.n] 68) = W1 := ⟨_, rfl⟩
      have hX1 := BoxAt.new wr c.l 68
      rw [show wr.alloc (.cells c.l.toArray 68) = W1 from hW1, hxb] at hX1
      have hb1 : Below wr.heap.size wr W1 := by rw [← hW1]; exact (Below.refl _ _).alloc (Nat.le_refl _) _
      have HN := hidq (show ∀ W, Below W1.heap.size W1 W → SlAt 1 W a2 cap2 m (vals (dns L i)) ∧ Below W0.heap.size W0 W from fun W hW => ⟨(z2.below hb1).below hW, (hbw.trans (hb1.mono hbw.size)).trans (hW.mono (by have := hbw.size; have := hb1.size; omega))⟩)
      have HXX := hidq (And.intro z1 (And.intro z3 (And.intro z4 (isDn_of hc))))
      have hDn := hidq (fun w => cdone_any c w)
      obtain ⟨dn, hdn⟩ : ∃ dn, c.done = dn := ⟨_, rfl⟩
      rw [hdn] at hDn HXX
      have x0 := ((hX1).get 0 _ rfl).1
      have x1 := ((hX1).get 1 _ rfl).1
      have x2 := ((hX1).get 2 _ rfl).1
      have x3 := ((hX1).get 3 _ rfl).1
      have x4 := ((hX1).get 4 _ rfl).1
      have x5 := ((hX1).get 5 _ rfl).1
      have x6 := ((hX1).get 6 _ rfl).1
      have x7 := ((hX1).get 7 _ rfl).1
      have x8 := ((hX1).get 8 _ rfl).1
      have x9 := ((hX1).get 9 _ rfl).1
      have x10 := ((hX1).get 10 _ rfl).1
      have x11 := ((hX1).get 11 _ rfl).1
      have hxl := (hX1).lt
      clear h hn hb0 hB0 hs0 z1 z2 z3 z4 hbw hc hcell hrr hb1 hX1 hX hdn
      go_wp2_with fail
      refine (hDn.out _).mono ?_
      rintro e w2 ⟨rfl, hb2⟩
      have HB2 := hidq hb2
      clear hDn hb2 x0 m0 x1 m1 x2 m2 x3 m3 x4 m4 x5 m5 x6 m6 x7 m7 x8 m8 x9 m9 x10 m10 x11 m11 hW1 hxl hgr
      obtain ⟨z1, z3, z4, hdn⟩ := HXX.out
      obtain ⟨z2, hbw⟩ := HN.out w2 HB2.out
      cases dn with
      | false =>
        have HE := hidq (show m = (dns L (i + 1)).length ∧ SlAt 1 w2 a2 cap2 m (vals (dns L (i + 1))) ∧ (m = 0 → a2 = none ∧ cap2 = 0) ∧ (∀ j, inB a2 j → W0.heap.size ≤ j) ∧ Below W0.heap.size W0 w2 from by
          rw [dns_succ, hdn, if_neg (by decide)]
          exact ⟨z1, z2, z3, z4, hbw⟩)
        clear z1 z2 z3 z4 hbw hdn HN HXX HB2
        go_wp2_with fail
        go_roundw
        case rel => exact ⟨i + 1, a2, cap2, m, rfl, by go_num, by omega, HE⟩
        case measure => simp [intOf]; omega
      | true =>
        have hm20 : m ≤ 20 := by have := dns_len L i; omega
        have HSL := hidq z2
        have HX4 := hidq (And.intro z1 (And.intro z4 (And.intro hbw hdn)))
        have hm12 : m + 1 ≤ 1099511627776 := by omega
        clear z1 z2 z3 z4 hbw hdn HN HXX HB2
        go_wp2_with (at_builtin; refine wpList_sl plainN _ rfl (.tmp 15) (.tmp 17) rfl a2 cap2 m (vals (dns L i)) rfl (HSL.out.below ((Below.refl _ _).alloc (Nat.le_refl _) _)) _ rfl 1 [.int .i64 (i : Int)] (src_new 1 _ Tryz.underlying90 w2.heap.size [.int .i64 (i : Int)] rfl (fun j u hu => by rw [World.cell?_alloc_new]; simpa using hu) (by intro u hu; simp at hu; subst hu; rfl)) (by omega) hm12 ?_; intro g2 c2 w3 hF3 hb3 hg3; have HF3 := hidq hF3; have HB3 := hidq hb3; have HG3 := hidq hg3; clear hF3 hb3 hg3)
        have HE := hidq (show m + 1 = (dns L (i + 1)).length ∧ SlAt 1 w3 (some ⟨g2, 0, none⟩) c2 (m + 1) (vals (dns L (i + 1))) ∧ (m + 1 = 0 → (some (⟨g2, 0, none⟩ : Addr)) = none ∧ c2 = 0) ∧ (∀ j, inB (some ⟨g2, 0, none⟩) j → W0.heap.size ≤ j) ∧ Below W0.heap.size W0 w3 from by
          obtain ⟨z1, z4, hbw, hdn⟩ := HX4.out
          rw [dns_succ, hdn, if_pos rfl]
          refine ⟨by rw [List.length_append, z1]; rfl, .inr ⟨g2, rfl, ?_⟩, fun e => absurd e (by omega), ?_, ?_⟩
          · have := HF3.out
            rw [show vals (dns L i ++ [i]) = vals (dns L i) ++ [.int .i64 (i : Int)] by simp [vals]]
            exact this
          · rintro j ⟨y, hy, rfl⟩
            cases hy
            rcases HG3.out with q | q
            · exact z4 _ q
            · have := hbw.size
              rw [World.size_alloc] at q
              show W0.heap.size ≤ g2
              omega
          · exact (hbw.trans (((Below.refl _ _).alloc (Nat.le_refl _) _).mono hbw.size)).trans (HB3.out.below (by have := hbw.size; rw [World.size_alloc]; omega) (fun j hj => z4 j hj)))
        clear HX4 HSL HF3 HB3 HG3
        go_wp2_with fail
        go_roundw
        case rel => exact ⟨i + 1, some ⟨g2, 0, none⟩, c2, m + 1, rfl, by go_num, by omega, HE⟩
        case measure => simp [intOf]; omega
    · have hin : i = n := by omega
      have hd1 : decide ((i : Int) < (n : Int)) = false := decide_eq_false (by omega)
      have hd2 : decide (i < n) = false := decide_eq_false hlt
      have HIN := hidq hin
      clear hin
      by_cases hm0 : m = 0
      · subst hm0
        obtain ⟨h, hn, hb0, hB0, hs0⟩ := HH.out
        obtain ⟨z1, z2, z3, z4, hbw⟩ := hX.out
        obtain ⟨rfl, rfl⟩ := z3 rfl
        have hnil : dns L L.length = [] := by rw [hn, ← HIN.out]; exact List.length_eq_zero_iff.1 z1.symm
        have HE := hidq (show DoneEnd L w (.returned (.slice none 0 0)) wr from ⟨[], none, 0, rfl, (fun i v hv => by simp at hv), dns_nil hnil, hb0.trans (hbw.mono hb0.size)⟩)
        have hS := hidq (fun f => sortst0_any f wr)
        have hmf : ∀ (fn : Fn) (first cap : Array Value) (w : World), (Instr.makeFunc fn first cap).run Tryz.prog w = .ok (.func fn first cap) w := fun _ _ _ _ => rfl
        clear z1 z2 z3 z4 hbw h hn hb0 hB0 hs0 hX hnil
        go_wp2_with fail
        refine (hS.out _).mono ?_
        rintro e w2 ⟨rfl, hw2⟩
        subst w2
        go_wp2_with fail
        go_ret
        exact HE.out
      · obtain ⟨h, hn, hb0, hB0, hs0⟩ := HH.out
        obtain ⟨z1, z2, z3, z4, hbw⟩ := hX.out
        obtain ⟨k, hk⟩ : ∃ k, L.length = k + 1 := ⟨L.length - 1, by have := dns_len L i; omega⟩
        have hin := HIN.out
        rw [show i = L.length by omega] at z1 z2
        obtain ⟨blk, rfl, hF2⟩ : ∃ blk, a2 = some ⟨blk, 0, none⟩ ∧ Flat 1 wr blk cap2 m (vals (dns L L.length)) := by
          rcases z2 with ⟨_, e, _⟩ | ⟨blk, e1, e2⟩
          · exact absurd e hm0
          · exact ⟨blk, e1, e2⟩
        obtain ⟨g, rfl, hFl⟩ : ∃ g, a = some ⟨g, 0, none⟩ ∧ Flat 12 W0 g cap n (flatCl L) := by
          rcases h with ⟨_, e, _⟩ | ⟨g, e1, e2⟩
          · exact absurd e (by omega)
          · exact ⟨g, e1, e2⟩
        have hblk := z4 blk ⟨_, rfl, rfl⟩
        have hP : ∀ j ∈ dns L L.length, j ≤ k := fun j hj => by have := (dns_mem.1 hj).1; omega
        have hH : Holds (encF k) wr blk 0 (finA k (dns L L.length)) := fun j hj => by
          rw [finA_size] at hj
          obtain ⟨y, hy⟩ : ∃ y, (dns L L.length)[j]? = some y := ⟨_, List.getElem?_eq_getElem hj⟩
          rw [Nat.zero_add]
          refine ⟨?_, (hF2.there j (by have := hF2.le; omega)).2⟩
          have := hF2.cell j (.int .i64 (y : Int)) (by simp [vals, hy])
          rw [this]
          unfold encF
          rw [finA_get hP hy]
        have hR : Srt14 L k g cap sb blk (finA k (dns L L.length)) wr := ⟨hk, by rw [← hk, hn]; exact hFl.but (S := fun _ => False) (But.of_below hbw) id, by rw [← hk, hn]; exact hB0.below hbw, ⟨fun x => rfl, hH, hF2.lt⟩, (by have := hFl.lt; omega), (by omega)⟩
        have hS := hidq (sortst_any L k g cap sb blk cap2 (finA k (dns L L.length)) wr hR m (by rw [finA_size]; exact z1.symm) (by have := dns_len L L.length; omega))
        have HE := hidq (show ∀ w', SW (encF k) wr blk 0 (insertionSort (ltE (fun i : Fin (k + 1) => finE L i.val)) (finA k (dns L L.length)) 0 m) w' → DoneEnd L w (.returned (.slice (some ⟨blk, 0, none⟩) m cap2)) w' from fun w' hW => by
          have hb7 := sw_but hW
          have hd := doneOf_sort hk
          obtain ⟨S, hSe⟩ : ∃ S, insertionSort (ltE (fun i : Fin (k + 1) => finE L i.val)) (finA k (dns L L.length)) 0 m = S := ⟨_, rfl⟩
          rw [hSe] at hW
          rw [← z1, hSe] at hd
          have hss : S.size = (finA k (dns L L.length)).size := by
            have := (insertionSort_holds (lt := ltE (fun i : Fin (k + 1) => finE L i.val)) ⟨fun x => by unfold ltE; simp, fun x y z a b => by unfold ltE at *; simp at *; omega, fun x y z a b => by unfold ltE at *; simp at *; omega⟩ (finA k (dns L L.length)) 0 m (Nat.zero_le _) (by rw [finA_size]; omega)).1.1
            rw [hSe] at this
            exact this
          rw [finA_size, ← z1] at hss
          have hlen : (S.toList.map Fin.val).length = m := by simp [hss]
          refine ⟨S.toList.map Fin.val, some ⟨blk, 0, none⟩, cap2, by rw [hlen], fun t v hv => ?_, hd, (hb0.trans (hbw.mono hb0.size)).trans (hb7.below (by have := hb0.size; have := hbw.size; omega) (fun j e => by have := hb0.size; omega))⟩
          have ht : t < m := by have := (List.getElem?_eq_some_iff.1 hv).1; rw [hlen] at this; exact this
          have h1 := hW.c1 hR.row (by rw [hss, finA_size]; exact z1) t (by omega)
          refine ⟨blk, 0, rfl, Nat.lt_of_lt_of_le hF2.lt hb7.size, id, ?_⟩
          rw [h1]
          have : (S[t]!).val = v := by
            rw [List.getElem?_map, Array.getElem?_toList, Array.getElem?_eq_getElem (by omega)] at hv
            rw [getElem!_pos S t (by omega)]
            simpa using hv
          unfold encF
          rw [this])
        have hmf : ∀ (fn : Fn) (first cap : Array Value) (w : World), (Instr.makeFunc fn first cap).run Tryz.prog w = .ok (.func fn first cap) w := fun _ _ _ _ => rfl
        clear z1 z2 z3 z4 hbw h hn hb0 hB0 hs0 hX hF2 hFl hblk hP hH hR hin hk
        go_wp2_with fail
        refine (hS.out).mono ?_
        rintro e w2 ⟨rfl, hW2⟩
        have HF := hidq (HE.out w2 hW2)
        clear hW2 HE hS
        go_wp2_with fail
        go_ret
        exact HF.out
end Go.Proofs.YtdghgmaoamjnlaaGreat

namespace Go.Proofs.YtdghgmaoamjnlaaGreat
open Go.RowKit Go.Sort

theorem DoneOf.nodup {L : List Cl} {S : List Nat} (h : DoneOf L S) : S.Nodup := by
  rw [List.nodup_iff_pairwise_ne]
  exact h.ord.imp (fun {x y} e => by rintro rfl; omega)
theorem DoneOf.len {L : List Cl} {S : List Nat} (h : DoneOf L S) : S.length ≤ L.length := by
  have hd : (dns L L.length).Nodup := by
    rw [List.nodup_iff_pairwise_ne]
    exact (dns_inc L L.length).imp (fun {x y} e => by omega)
  have hp : S.Perm (dns L L.length) := (List.perm_ext_iff_of_nodup h.nodup hd).2 (fun x => by rw [h.mem, dns_mem])
  rw [hp.length_eq]
  exact dns_len L L.length
/-- Two of them are the same list. -/
theorem DoneOf.uniq {L : List Cl} {S T : List Nat} (h : DoneOf L S) (h' : DoneOf L T) : S = T :=
  List.Perm.eq_of_pairwise (le := fun x y => finE L x < finE L y ∨ (finE L x = finE L y ∧ x < y)) (fun x y _ _ a b => by omega) h.ord h'.ord ((List.perm_ext_iff_of_nodup h.nodup h'.nodup).2 (fun x => by rw [h.mem, h'.mem]))
theorem DoneOf.split {L : List Cl} {S : List Nat} (h : DoneOf L S) (m : Nat) {x y : Nat} (hx : x ∈ S.take m) (hy : y ∈ S.drop m) : finE L x < finE L y ∨ (finE L x = finE L y ∧ x < y) := by
  have := h.ord
  rw [← List.take_append_drop m S, List.pairwise_append] at this
  exact this.2.2 x hx y hy
/-- What the last one that was found tells of the others. -/
theorem DoneOf.behind {L : List Cl} {S : List Nat} (h : DoneOf L S) {m p i : Nat} (hm : S[m]? = some p) (hi : i ∈ S) : (finE L i < finE L p ∨ (finE L i = finE L p ∧ ¬ p < i)) ↔ ¬ i ∈ S.drop (m + 1) := by
  have hp : p ∈ S.take (m + 1) := by
    rw [List.take_add_one, hm]; simp
  constructor
  · intro e hd
    have := h.split (m + 1) hp hd
    omega
  · intro hn
    have ht : i ∈ S.take (m + 1) := by
      rw [← List.take_append_drop (m + 1) S] at hi
      exact (List.mem_append.1 hi).resolve_right hn
    rw [List.take_add_one, hm] at ht
    rcases List.mem_append.1 ht with e | e
    · have hpd : p ∈ S.drop m := by
        obtain ⟨hl, he⟩ := List.getElem?_eq_some_iff.1 hm
        rw [List.drop_eq_getElem_cons hl, he]
        exact List.mem_cons_self
      have := h.split m e hpd
      omega
    · simp at e
      subst e
      omega
/-- The best one of those ahead of place q. -/
def BInv (L : List Cl) (S : List Nat) (m q : Nat) (b : Int) : Prop :=
  (b = -1 ∧ ∀ i, i < q → ¬ i ∈ S.drop m) ∨ ∃ k : Nat, b = (k : Int) ∧ k < q ∧ k ∈ S.drop m ∧ ∀ i, i < q → i ∈ S.drop m → finE L k < finE L i ∨ (finE L k = finE L i ∧ k ≤ i)
theorem BInv.start (L : List Cl) (S : List Nat) (m : Nat) : BInv L S m 0 (-1) := .inl ⟨rfl, fun _ h => absurd h (Nat.not_lt_zero _)⟩
theorem BInv.skip {L : List Cl} {S : List Nat} {m q : Nat} {b : Int} (h : BInv L S m q b) (hq : ¬ q ∈ S.drop m) : BInv L S m (q + 1) b := by
  rcases h with ⟨h1, h2⟩ | ⟨k, h1, h2, h3, h4⟩
  · refine .inl ⟨h1, fun i hi => ?_⟩
    by_cases e : i = q
    · rw [e]; exact hq
    · exact h2 i (by omega)
  · refine .inr ⟨k, h1, by omega, h3, fun i hi hd => ?_⟩
    by_cases e : i = q
    · rw [e] at hd; exact absurd hd hq
    · exact h4 i (by omega) hd
theorem BInv.new {L : List Cl} {S : List Nat} {m q : Nat} {b : Int} (h : BInv L S m q b) (hq : q ∈ S.drop m) (hb : b = -1 ∨ ∃ k : Nat, b = (k : Int) ∧ finE L q < finE L k) : BInv L S m (q + 1) (q : Int) := by
  refine .inr ⟨q, rfl, Nat.lt_succ_self q, hq, fun i hi hd => ?_⟩
  by_cases e : i = q
  · subst e; exact .inr ⟨rfl, Nat.le_refl _⟩
  · rcases h with ⟨h1, h2⟩ | ⟨k, h1, h2, h3, h4⟩
    · exact absurd hd (h2 i (by omega))
    · rcases hb with e2 | ⟨k', e2, e3⟩
      · omega
      · have : k' = k := by omega
        subst this
        have := h4 i (by omega) hd
        omega
theorem BInv.keep {L : List Cl} {S : List Nat} {m q k : Nat} (h : BInv L S m q (k : Int)) (hn : ¬ finE L q < finE L k) : BInv L S m (q + 1) (k : Int) := by
  rcases h with ⟨h1, h2⟩ | ⟨k', h1, h2, h3, h4⟩
  · omega
  · have : k' = k := by omega
    subst this
    refine .inr ⟨k', rfl, by omega, h3, fun i hi hd => ?_⟩
    by_cases e : i = q
    · subst e; omega
    · exact h4 i (by omega) hd
theorem BInv.none_ {L : List Cl} {S : List Nat} {m : Nat} (hS : DoneOf L S) (h : BInv L S m L.length (-1)) (hm : m ≤ S.length) : m = S.length := by
  rcases h with ⟨_, h2⟩ | ⟨k, h1, _⟩
  · rcases Nat.lt_or_ge m S.length with e | e
    · exfalso
      have hx : S[m]'e ∈ S.drop m := by rw [List.drop_eq_getElem_cons e]; exact List.mem_cons_self
      exact h2 _ ((hS.mem _).1 (List.mem_of_mem_drop hx)).1 hx
    · omega
  · omega
theorem BInv.some_ {L : List Cl} {S : List Nat} {m k : Nat} (hS : DoneOf L S) (h : BInv L S m L.length (k : Int)) : S[m]? = some k := by
  rcases h with ⟨h1, _⟩ | ⟨k', h1, h2, h3, h4⟩
  · omega
  · have : k' = k := by omega
    subst this
    have hl : m < S.length := by
      rcases Nat.lt_or_ge m S.length with e | e
      · exact e
      · rw [List.drop_of_length_le e] at h3; cases h3
    rw [List.getElem?_eq_getElem hl]
    have hd : S.drop m = S[m]'hl :: S.drop (m + 1) := List.drop_eq_getElem_cons hl
    have hx : S[m]'hl ∈ S.drop m := by rw [hd]; exact List.mem_cons_self
    have hx4 := h4 _ ((hS.mem _).1 (List.mem_of_mem_drop hx)).1 hx
    rw [hd] at h3
    rcases List.mem_cons.1 h3 with e | e
    · rw [e]
    · exfalso
      have hp := hS.split (m + 1) (x := S[m]'hl) (y := k') (List.mem_iff_getElem?.2 ⟨m, by rw [List.getElem?_take, if_pos (Nat.lt_succ_self m), List.getElem?_eq_getElem hl]⟩) e
      omega
/-- The last one's number. -/
def lastE (L : List Cl) (S : List Nat) (m : Nat) : Int := if m = 0 then -1 else finE L (S.getD (m - 1) 0)
end Go.Proofs.YtdghgmaoamjnlaaGreat

namespace Go.Proofs.YtdghgmaoamjnlaaGreat
open Go.RowKit Go.Sort

set_option maxRecDepth 20000 in
set_option maxHeartbeats 2000000 in
theorem rbehind_any (a : Option Addr) (cap m : Nat) (P : List Nat) (i : Nat) (w : World) (h : SlAt 1 w a cap m (vals P)) (hm : P.length = m) (hm2 : m ≤ 1000) :
    Calls Tryz.prog 90 #[.slice a m cap, .int .i64 (i : Int)] w fun e w' => e = .returned (.bool (decide (m = 0 ∨ P.getD (m - 1) 0 < i))) ∧ w' = w := by
  by_cases h0 : m = 0
  · have HE := hidq (show decide (m = 0 ∨ P.getD (m - 1) 0 < i) = true from decide_eq_true (.inl h0))
    subst h0
    clear h hm
    go_enter Tryz.func90, Tryz.ntmps90
    go_wp2_with fail
    go_ret
    exact ⟨by first | rfl | (rw [HE.out]; rfl), rfl⟩
  · obtain ⟨k, hk⟩ : ∃ k, m - 1 = k := ⟨_, rfl⟩
    obtain ⟨p, hp⟩ : ∃ p, P[k]? = some p := ⟨_, List.getElem?_eq_getElem (by omega)⟩
    obtain ⟨g, rfl, hgl, hgc⟩ := h.cell (t := k) (u := .int .i64 (p : Int)) (by simp [vals, hp])
    have hcap := h.le
    have hsub : (m : Int) - 1 = (k : Int) := by omega
    have hkm : k < m := by omega
    have hkI : (k : Int) < (m : Int) := by omega
    have h0b : ((m : Int) == 0) = false := by simp; omega
    have h0c : (m == 0) = false := by simpa using h0
    have hmI : (m : Int) ≤ 1000 := by omega
    have hgd : P.getD (m - 1) 0 = p := by rw [hk, List.getD_eq_getElem?_getD, hp]; rfl
    by_cases hq : p < i
    · have HE := hidq (show decide (m = 0 ∨ P.getD (m - 1) 0 < i) = true from decide_eq_true (.inr (by rw [hgd]; exact hq)))
      have hqI : decide ((p : Int) < (i : Int)) = true := decide_eq_true (by omega)
      clear h hm hp hgd hk h0
      go_enter Tryz.func90, Tryz.ntmps90
      go_wp2_with fail
      go_ret
      exact ⟨by first | rfl | (rw [HE.out]; rfl), rfl⟩
    · have HE := hidq (show decide (m = 0 ∨ P.getD (m - 1) 0 < i) = false from decide_eq_false (by rw [hgd]; omega))
      have hqI : decide ((p : Int) < (i : Int)) = false := decide_eq_false (by omega)
      have hq2 : decide (p < i) = false := decide_eq_false hq
      clear h hm hp hgd hk h0
      go_enter Tryz.func90, Tryz.ntmps90
      go_wp2_with fail
      go_ret
      exact ⟨by first | rfl | (rw [HE.out]; rfl), rfl⟩

def slLen : Value → Nat
  | .slice _ n _ => n
  | _ => 0
/-- What holds between two rounds. -/
def RD (L : List Cl) (S : List Nat) (w : World) (m : Nat) (a2 : Option Addr) (cap2 : Nat) (last : Int) (wr : World) : Prop :=
  SlAt 1 wr a2 cap2 m (vals (S.take m)) ∧ (∀ j, inB a2 j → w.heap.size ≤ j) ∧ Below w.heap.size w wr ∧ last = lastE L S m
def RDEnd (S : List Nat) (w : World) (e : Ending) (w' : World) : Prop :=
  ∃ (a2 : Option Addr) (cap2 : Nat), e = .returned (.slice a2 S.length cap2) ∧ NsAt w' a2 (fun _ => False) S ∧ Below w.heap.size w w'
theorem RD.end_ {L : List Cl} {S : List Nat} {w wr : World} {m : Nat} {a2 : Option Addr} {cap2 : Nat} {last : Int} (h : RD L S w m a2 cap2 last wr) (hm : m = S.length) : RDEnd S w (.returned (.slice a2 m cap2)) wr := by
  obtain ⟨h1, h2, h3, _⟩ := h
  subst hm
  rw [List.take_length] at h1
  exact ⟨a2, cap2, rfl, nsAt_of h1 (fun _ _ e => e), h3⟩

set_option maxRecDepth 20000 in
set_option maxHeartbeats 8000000 in
theorem rdone14_any (LC : List Cl) (S : List Nat) (hS : DoneOf LC S) (a : Option Addr) (cap n : Nat) (w : World) (h : SlAt 3 w a cap n (flat14 LC)) (hn : LC.length = n) (hn1000 : n ≤ 1000) :
    Calls Tryz.prog 43 #[.slice a n cap] w (RDEnd S w) := by
  have hcap := h.le
  have hSn := hS.len
  have HH := hidq (And.intro h (And.intro hn (And.intro hS hSn)))
  clear h hn hS hSn
  go_enter Tryz.func43, Tryz.ntmps43
  go_wp2_with fail
  go_loopw [3, 4] (fun s3 s4 wr => ∃ (m : Nat) (a2 : Option Addr) (cap2 : Nat) (last : Int), s3 = .slice a2 m cap2 ∧ s4 = .int .i64 last ∧ m ≤ S.length ∧ m ≤ n ∧ Hid (RD LC S w m a2 cap2 last wr)) (fun s3 _ _ => n - slLen s3)
  case atStart =>
    refine ⟨0, some ⟨w.heap.size, 0, none⟩, 0, -1, rfl, rfl, Nat.zero_le _, Nat.zero_le _, hidq ⟨.inr ⟨w.heap.size, rfl, Flat.new w [] _ 1 0 rfl (Nat.zero_le _) (fun u hu => by cases hu)⟩, ?_, (Below.refl _ _).alloc (Nat.le_refl _) _, rfl⟩⟩
    rintro j ⟨x, hx, rfl⟩
    cases hx
    exact Nat.le_refl _
  case round =>
    obtain ⟨m, a2, cap2, last, rfl, rfl, hmS, hmn, hX⟩ := hrel
    by_cases hlt : m < n
    case neg =>
      have HE := hidq (hX.out.end_ (by have := HH.out.2.2.2; have := HH.out.2.1; omega))
      have hd1 : decide ((m : Int) < (n : Int)) = false := decide_eq_false (by omega)
      have hd2 : decide (m < n) = false := decide_eq_false hlt
      clear hX
      go_wp2_with fail
      go_ret
      exact HE.out
    have hltI : (m : Int) < (n : Int) := by omega
    have hcap2 := hX.out.1.le
    go_wp2_with fail
    obtain ⟨w6, h6⟩ : ∃ w6, w6 = wr := ⟨_, rfl⟩
    subst h6
    go_loopw [5, 17] (fun s5 s17 wr => ∃ (q : Nat) (b : Int), s5 = .int .i64 b ∧ s17 = .int .i64 (q : Int) ∧ q ≤ n ∧ Hid (BInv LC S m q b ∧ Below w6.heap.size w6 wr)) (fun _ s17 _ => n - (intOf s17).toNat)
    case atStart => exact ⟨0, -1, rfl, rfl, Nat.zero_le _, hidq ⟨BInv.start LC S m, Below.refl _ _⟩⟩
    case round =>
      obtain ⟨q, b, rfl, rfl, hq, hY⟩ := hrel
      by_cases hqn : q < n
      case neg =>
        have hqe : q = n := by omega
        have hd1 : decide ((q : Int) < (n : Int)) = false := decide_eq_false (by omega)
        have hd2 : decide (q < n) = false := decide_eq_false hqn
        obtain ⟨h, hn, hS, hSn⟩ := HH.out
        obtain ⟨y1, y2⟩ := hY.out
        rw [hqe, ← hn] at y1
        obtain ⟨r1, r2, r3, r4⟩ := hX.out
        by_cases hb : b < 0
        · have hb1 : b = -1 := by
            rcases y1 with ⟨e, _⟩ | ⟨k, e, _⟩ <;> omega
          have hY1 : BInv LC S m LC.length (-1) := by rw [← hb1]; exact y1
          have HE := hidq ((show RD LC S w m a2 cap2 last wr from ⟨r1.below y2, r2, r3.trans (y2.mono r3.size), r4⟩).end_ (hY1.none_ hS hmS))
          clear h hn hS hSn y1 y2 r1 r2 r3 r4 hX hY hqe hb1 hY1
          go_wp2_with fail
          go_ret
          exact HE.out
        · obtain ⟨k, hk⟩ : ∃ k : Nat, b = (k : Int) := ⟨b.toNat, by omega⟩
          subst hk
          have hSm := y1.some_ hS
          have hkn : k < n := by
            have := (hS.mem k).1 (List.mem_of_getElem? hSm)
            omega
          obtain ⟨c, hc⟩ : ∃ c, LC[k]? = some c := ⟨_, List.getElem?_eq_getElem (by omega)⟩
          obtain ⟨g, rfl, hFl⟩ : ∃ g, a = some ⟨g, 0, none⟩ ∧ Flat 3 w g cap n (flat14 LC) := by
            rcases h with ⟨_, e, _⟩ | ⟨g, e1, e2⟩
            · exact absurd e (by omega)
            · exact ⟨g, e1, e2⟩
          obtain ⟨cf, hcf⟩ : ∃ cf, c.fin = cf := ⟨_, rfl⟩
          have hgl := hFl.lt
          have hlow := r3.trans (y2.mono r3.size)
          have m2 : wr.cell? ⟨g, k * 3 + 2, none⟩ = some (.int .i64 cf) := by
            rw [hlow.cell (p := ⟨g, k * 3 + 2, none⟩) hgl, ← hcf]
            exact hFl.cell _ _ (by rw [flat14_get LC k 2 c hc (by decide)]; rfl)
          have hgr : g < wr.heap.size := Nat.lt_of_lt_of_le hgl hlow.size
          have hkI : (k : Int) < (n : Int) := by omega
          have HSL := hidq (r1.below y2)
          have HX4 := hidq (And.intro r2 (And.intro hlow (And.intro hSm (show finE LC k = cf from by rw [finE_of hc, hcf]))))
          have hm12 : m + 1 ≤ 1099511627776 := by omega
          have hmS1 : m + 1 ≤ S.length := by have := (List.getElem?_eq_some_iff.1 hSm).1; omega
          clear h hn hS hSn y1 y2 r1 r2 r3 r4 hX hY hqe hSm hc hFl hcf hlow
          go_wp2_with (at_builtin; refine wpList_sl plainN _ rfl (.tmp 63) (.tmp 65) rfl a2 cap2 m (vals (S.take m)) rfl (HSL.out.below ((Below.refl _ _).alloc (Nat.le_refl _) _)) _ rfl 1 [.int .i64 (k : Int)] (src_new 1 _ Tryz.underlying90 wr.heap.size [.int .i64 (k : Int)] rfl (fun j u hu => by rw [World.cell?_alloc_new]; simpa using hu) (by intro u hu; simp at hu; subst hu; rfl)) (by omega) hm12 ?_; intro g2 c2 w3 hF3 hb3 hg3; have HF3 := hidq hF3; have HB3 := hidq hb3; have HG3 := hidq hg3; clear hF3 hb3 hg3)
          have HE := hidq (show RD LC S w (m + 1) (some ⟨g2, 0, none⟩) c2 cf w3 from by
            obtain ⟨r2, hlow, hSm, hfe⟩ := HX4.out
            refine ⟨.inr ⟨g2, rfl, ?_⟩, ?_, ?_, ?_⟩
            · rw [List.take_add_one, hSm]
              have := HF3.out
              rw [show vals (S.take m ++ (some k).toList) = vals (S.take m) ++ [.int .i64 (k : Int)] by simp [vals]]
              exact this
            · rintro j ⟨y, hy, rfl⟩
              cases hy
              rcases HG3.out with q | q
              · exact r2 _ q
              · have := hlow.size
                rw [World.size_alloc] at q
                show w.heap.size ≤ g2
                omega
            · exact (hlow.trans (((Below.refl _ _).alloc (Nat.le_refl _) _).mono hlow.size)).trans (HB3.out.below (by have := hlow.size; rw [World.size_alloc]; omega) (fun j hj => r2 j hj))
            · unfold lastE
              rw [if_neg (by omega), show m + 1 - 1 = m by omega, List.getD_eq_getElem?_getD, hSm]
              exact hfe.symm)
          clear HX4 HSL HF3 HB3 HG3 m2 hgr
          go_wp2_with fail
          go_roundw
          case rel => exact ⟨m + 1, some ⟨g2, 0, none⟩, c2, cf, rfl, rfl, hmS1, by omega, HE⟩
          case measure => simp [slLen]; omega
      have hqnI : (q : Int) < (n : Int) := by omega
      obtain ⟨h, hn, hS, hSn⟩ := HH.out
      obtain ⟨y1, y2⟩ := hY.out
      obtain ⟨r1, r2, r3, r4⟩ := hX.out
      obtain ⟨c, hc⟩ : ∃ c, LC[q]? = some c := ⟨_, List.getElem?_eq_getElem (by omega)⟩
      obtain ⟨g, rfl, hFl⟩ : ∃ g, a = some ⟨g, 0, none⟩ ∧ Flat 3 w g cap n (flat14 LC) := by
        rcases h with ⟨_, e, _⟩ | ⟨g, e1, e2⟩
        · exact absurd e (by omega)
        · exact ⟨g, e1, e2⟩
      obtain ⟨ct, hct⟩ : ∃ ct, c.thread = ct := ⟨_, rfl⟩
      obtain ⟨cb, hcb⟩ : ∃ cb, c.beg = cb := ⟨_, rfl⟩
      obtain ⟨cf, hcf⟩ : ∃ cf, c.fin = cf := ⟨_, rfl⟩
      have hgl := hFl.lt
      have hlow := r3.trans (y2.mono r3.size)
      have hrow : ∀ (i j : Nat) (d : Cl) u, LC[i]? = some d → (rrow d)[j]? = some u → wr.cell? ⟨g, i * 3 + j, none⟩ = some u := fun i j d u hd hu => by
        have hj : j < 3 := (List.getElem?_eq_some_iff.1 hu).1
        rw [hlow.cell (p := ⟨g, i * 3 + j, none⟩) hgl]
        exact hFl.cell _ _ (by rw [flat14_get LC i j d hd hj]; exact hu)
      have m0 : wr.cell? ⟨g, q * 3, none⟩ = some (.int .i64 ct) := by rw [← hct]; exact hrow q 0 c _ hc rfl
      have m1 : wr.cell? ⟨g, q * 3 + 1, none⟩ = some (.int .i64 cb) := by rw [← hcb]; exact hrow q 1 c _ hc rfl
      have m2 : wr.cell? ⟨g, q * 3 + 2, none⟩ = some (.int .i64 cf) := by rw [← hcf]; exact hrow q 2 c _ hc rfl
      have hgr : g < wr.heap.size := Nat.lt_of_lt_of_le hgl hlow.size
      obtain ⟨xb, hxb⟩ : ∃ xb, wr.heap.size = xb := ⟨_, rfl⟩
      obtain ⟨W1, hW1⟩ : ∃ W1, wr.alloc (.cells #[.int .i64 ct, .int .i64 cb, .int .i64 cf] 81) = W1 := ⟨_, rfl⟩
      have hX1 := BoxAt.new wr [.int .i64 ct, .int .i64 cb, .int .i64 cf] 81
      rw [show wr.alloc (.cells [.int .i64 ct, .int .i64 cb, .int .i64 cf].toArray 81) = W1 from hW1, hxb] at hX1
      have hb1 : Below wr.heap.size wr W1 := by rw [← hW1]; exact (Below.refl _ _).alloc (Nat.le_refl _) _
      have x2 := (hX1.get 2 _ rfl).1
      have hxl := hX1.lt
      have hfq : finE LC q = cf := by rw [finE_of hc, hcf]
      have hdq : q ∈ S ↔ 0 ≤ cf := by
        rw [hS.mem]
        constructor
        · rintro ⟨_, e⟩
          rw [isDn_of hc] at e
          have := of_decide_eq_true (show decide (0 ≤ c.fin) = true from e)
          omega
        · intro e
          refine ⟨by omega, ?_⟩
          rw [isDn_of hc]
          exact decide_eq_true (show 0 ≤ c.fin by omega)
      have HY1 := hidq (And.intro y1 (y2.trans (hb1.mono y2.size)))
      have HF := hidq (And.intro hfq (And.intro hdq hS))
      have HROW := hidq (And.intro hrow (And.intro hgr hb1))
      have HLAST := hidq r4
      have HBH := hidq (fun W (hW : Below W1.heap.size W1 W) => rbehind_any a2 cap2 m (S.take m) q W (((r1.below y2).below hb1).below hW) (by rw [List.length_take]; omega) (by omega))
      have hgr1 : g < W1.heap.size := Nat.lt_of_lt_of_le hgr hb1.size
      have HNN := hidq hn
      clear h hn hS hSn y1 y2 r1 r2 r3 r4 hc hFl hlow hrow hX1 hb1 hct hcb hcf hfq hdq hX hY
      by_cases hf0 : cf < 0
      · have HE := hidq (show BInv LC S m (q + 1) b ∧ Below w6.heap.size w6 W1 from ⟨HY1.out.1.skip (fun e => by have := HF.out.2.1.1 (List.mem_of_mem_drop e); omega), HY1.out.2⟩)
        go_wp2_with fail
        go_roundw
        case rel => exact ⟨q + 1, b, rfl, by go_num, by omega, HE⟩
        case measure => simp [intOf]; omega
      have d0 : decide (cf < 0) = false := decide_eq_false hf0
      have HINS := hidq (HF.out.2.1.2 (by omega))
      have HSK := hidq (show (cf < last ∨ (cf = last ∧ ¬ (m = 0 ∨ (S.take m).getD (m - 1) 0 < q))) ↔ ¬ q ∈ S.drop m from by
        by_cases hm0 : m = 0
        · have hl : last = -1 := by rw [HLAST.out, hm0]; rfl
          constructor
          · rintro (e | ⟨_, e⟩)
            · omega
            · exact absurd (.inl hm0) e
          · intro e
            rw [hm0] at e
            exact absurd HINS.out e
        · obtain ⟨p, hp⟩ : ∃ p, S[m - 1]? = some p := ⟨_, List.getElem?_eq_getElem (by omega)⟩
          have hl : last = finE LC p := by
            rw [HLAST.out]
            unfold lastE
            rw [if_neg hm0, List.getD_eq_getElem?_getD, hp]; rfl
          have hg : (S.take m).getD (m - 1) 0 = p := by
            rw [List.getD_eq_getElem?_getD, List.getElem?_take, if_pos (by omega), hp]; rfl
          have hb := HF.out.2.2.behind hp HINS.out
          rw [show m - 1 + 1 = m by omega] at hb
          rw [← hb, hg, hl, HF.out.1]
          constructor
          · rintro (e | ⟨e1, e2⟩)
            · exact .inl e
            · exact .inr ⟨e1, fun e => e2 (.inr e)⟩
          · rintro (e | ⟨e1, e2⟩)
            · exact .inl e
            · exact .inr ⟨e1, fun e => e.elim hm0 e2⟩)
      have HLOW1 := hidq (show Below w6.heap.size w6 W1 from HY1.out.2)
      clear hf0
      by_cases hk1 : cf < last
      · have HE := hidq (show BInv LC S m (q + 1) b ∧ Below w6.heap.size w6 W1 from ⟨HY1.out.1.skip (HSK.out.1 (.inl hk1)), HY1.out.2⟩)
        go_wp2_with fail
        go_roundw
        case rel => exact ⟨q + 1, b, rfl, by go_num, by omega, HE⟩
        case measure => simp [intOf]; omega
      have d1 : decide (cf < last) = false := decide_eq_false hk1
      have HK1 := hidq hk1
      clear hk1
      by_cases hk2 : cf = last
      focus
        have k2 : (cf == last) = true := by simpa using hk2
        have HK2 := hidq hk2
        clear hk2
        rcases (Classical.em (m = 0 ∨ (S.take m).getD (m - 1) 0 < q)).symm with hv | hv
        · have hBe := HBH.out W1 (Below.refl _ _)
          rw [decide_eq_false hv] at hBe
          have HE := hidq (show BInv LC S m (q + 1) b ∧ Below w6.heap.size w6 W1 from ⟨HY1.out.1.skip (HSK.out.1 (.inr ⟨HK2.out, hv⟩)), HY1.out.2⟩)
          have HBe := hidq hBe
          clear hBe hv
          go_wp2_with fail
          refine (HBe.out).mono ?_
          rintro e w9 ⟨rfl, hw9⟩
          subst w9
          clear HBe
          go_wp2_with fail
          go_roundw
          case rel => exact ⟨q + 1, b, rfl, by go_num, by omega, HE⟩
          case measure => simp [intOf]; omega
        have hBe := HBH.out W1 (Below.refl _ _)
        rw [decide_eq_true hv] at hBe
        have HIN := hidq (show q ∈ S.drop m from by
          by_cases e : q ∈ S.drop m
          · exact e
          · rcases HSK.out.2 e with e | ⟨_, e⟩
            · exact absurd e HK1.out
            · exact absurd hv e)
        have HBe := hidq hBe
        clear hBe hv
        go_wp2_with fail
        refine (HBe.out).mono ?_
        rintro e w9 ⟨rfl, hw9⟩
        subst w9
        clear HBe
        go_wp2_with fail
        clear k2 d1
      rotate_left
      focus
        have k2 : (cf == last) = false := by simpa using hk2
        have HIN := hidq (show q ∈ S.drop m from by
          by_cases e : q ∈ S.drop m
          · exact e
          · rcases HSK.out.2 e with e | ⟨e, _⟩
            · exact absurd e HK1.out
            · exact absurd e hk2)
        clear hk2
        go_wp2_with fail
        clear k2 d1
      all_goals
        obtain ⟨w8, h8⟩ : ∃ w8, w8 = wr := ⟨_, rfl⟩
        subst h8
        by_cases hb : b < 0
        · have HE := hidq (show BInv LC S m (q + 1) (q : Int) ∧ Below w6.heap.size w6 W1 from ⟨HY1.out.1.new HIN.out (.inl (by rcases HY1.out.1 with ⟨e, _⟩ | ⟨k, e, _⟩ <;> omega)), HY1.out.2⟩)
          go_region
          go_wp2_with fail
          go_roundw
          case rel => exact ⟨q + 1, (q : Int), rfl, by go_num, by omega, hidq ⟨HE.out.1, HE.out.2.drew⟩⟩
          case measure => simp [intOf]; omega
        · obtain ⟨k, hk⟩ : ∃ k : Nat, b = (k : Int) := ⟨b.toNat, by omega⟩
          subst hk
          have hkq : k < q := by
            rcases HY1.out.1 with ⟨e, _⟩ | ⟨k', e, e2, _⟩ <;> omega
          obtain ⟨d, hd⟩ : ∃ d, LC[k]? = some d := ⟨_, List.getElem?_eq_getElem (by have := HNN.out; omega)⟩
          obtain ⟨df, hdf⟩ : ∃ df, d.fin = df := ⟨_, rfl⟩
          have m9 : W1.cell? ⟨g, k * 3 + 2, none⟩ = some (.int .i64 df) := by
            rw [HROW.out.2.2.cell (p := ⟨g, k * 3 + 2, none⟩) HROW.out.2.1, ← hdf]
            exact HROW.out.1 k 2 d _ hd rfl
          have hkn : k < n := by omega
          have hkI : (k : Int) < (n : Int) := by omega
          have hdk : finE LC k = df := by rw [finE_of hd, hdf]
          by_cases hl2 : cf < df
          · have HE := hidq (show BInv LC S m (q + 1) (q : Int) ∧ Below w6.heap.size w6 W1 from ⟨HY1.out.1.new HIN.out (.inr ⟨k, rfl, by rw [HF.out.1, hdk]; exact hl2⟩), HY1.out.2⟩)
            clear hd hdf hdk hkq
            go_region
            go_wp2_with fail
            go_roundw
            case rel => exact ⟨q + 1, (q : Int), rfl, by go_num, by omega, hidq ⟨HE.out.1, HE.out.2.drew⟩⟩
            case measure => simp [intOf]; omega
          · have HE := hidq (show BInv LC S m (q + 1) (k : Int) ∧ Below w6.heap.size w6 W1 from ⟨HY1.out.1.keep (by rw [HF.out.1, hdk]; exact hl2), HY1.out.2⟩)
            have d2 : decide (cf < df) = false := decide_eq_false hl2
            clear hd hdf hdk hkq hl2
            go_region
            go_wp2_with fail
            go_roundw
            case rel => exact ⟨q + 1, (k : Int), rfl, by go_num, by omega, hidq ⟨HE.out.1, HE.out.2.drew⟩⟩
            case measure => simp [intOf]; omega
end Go.Proofs.YtdghgmaoamjnlaaGreat

namespace Go.Proofs.YtdghgmaoamjnlaaGreat
open Go.RowKit Go.Sort

theorem i64_and8 (n : Int) : bits .and .i64 n 255 = n % 256 := by
  have h63 : (BitVec.ofInt 64 255).toNat = 2 ^ 8 - 1 := by decide
  have key : (BitVec.ofInt 64 n &&& BitVec.ofInt 64 255).toNat = (n % ((2 ^ 64 : Nat) : Int)).toNat % 2 ^ 8 := by
    rw [BitVec.toNat_and, BitVec.toNat_ofInt, h63, Nat.and_two_pow_sub_one_eq_mod]
  show IntKind.i64.wrap ((BitVec.ofInt 64 n &&& BitVec.ofInt 64 255).toNat : Nat) = n % 256
  rw [key, IntKind.wrap_i64]
  omega
end Go.Proofs.YtdghgmaoamjnlaaGreat
