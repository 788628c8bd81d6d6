/-
  Layer 14: which calls were done, in the order in which they were: contract.
  Layer 14: which calls were done, in the order in which they were: the contract of Done.
-/
import Derived.Test.YtepigofpcjmddaaFlatCl14All
import Derived.Test.YtepigofpcjmddaaInsIt
import Derived.Test.YtepigofpcjmddaaPileWAll
import Derived.Test.YtepigofpcjmddaaFits5All
import Derived.StillTailTactics
import Derived.Test.YtepigofpcjmddaaFrame6All
namespace Go.Proofs.Ytepigofpcjmddaa
open Go.RowKit Go.Sort Go.Lib

theorem cisNaNn_any (x : Int) (w : World) : Calls Try.prog 126 #[.int .i64 x] w fun e w' => e = .returned (.bool false) ∧ w' = w := by
  go_enter Try.func126, Try.ntmps126
  go_wp2
  go_ret
  exact ⟨rfl, rfl⟩
theorem comparen_any (x y : Int) (w : World) : Calls Try.prog 111 #[.int .i64 x, .int .i64 y] w fun e w' => e = .returned (.int .i64 (cmpI x y)) ∧ w' = w := by
  rcases Int.lt_trichotomy x y with h | h | h
  · rw [cmpI_lt h]
    go_enter Try.func111, Try.ntmps111
    go_wp2_with (go_at_call 126; refine (cisNaNn_any _ _).mono ?_; rintro e w' ⟨rfl, rfl⟩)
    go_ret
    exact ⟨rfl, rfl⟩
  · rw [cmpI_eq h]
    subst h
    go_enter Try.func111, Try.ntmps111
    go_wp2_with (go_at_call 126; refine (cisNaNn_any _ _).mono ?_; rintro e w' ⟨rfl, rfl⟩)
    go_ret
    exact ⟨rfl, rfl⟩
  · rw [cmpI_gt h]
    have h' : ¬ x < y := by omega
    go_enter Try.func111, Try.ntmps111
    go_wp2_with (go_at_call 126; refine (cisNaNn_any _ _).mono ?_; rintro e w' ⟨rfl, rfl⟩)
    go_ret
    exact ⟨rfl, rfl⟩

/-- By which step a call was done. -/
def finE (L : List Cl) (i : Nat) : Int := ((L[i]?).map Cl.fin).getD 0
theorem finE_of {L : List Cl} {i : Nat} {c : Cl} (h : L[i]? = some c) : finE L i = c.fin := by unfold finE; rw [h]; rfl
def encF (k : Nat) (i : Fin (k + 1)) : Value := .int .i64 (i.val : Int)
def cfF (L : List Cl) (k : Nat) (x y : Fin (k + 1)) : Int := cmpI (finE L x.val) (finE L y.val)
theorem lt_cf (L : List Cl) (k : Nat) : ltOf (cfF L k) = ltE (fun i : Fin (k + 1) => finE L i.val) := by
  funext x y
  show decide (cmpI (finE L x.val) (finE L y.val) < 0) = decide (finE L x.val < finE L y.val)
  rcases Int.lt_trichotomy (finE L x.val) (finE L y.val) with h | h | h
  · rw [cmpI_lt h, decide_eq_true h]; rfl
  · rw [cmpI_eq h, decide_eq_false (show ¬ finE L x.val < finE L y.val by omega)]; rfl
  · rw [cmpI_gt h, decide_eq_false (show ¬ finE L x.val < finE L y.val by omega)]; rfl

set_option maxRecDepth 20000 in
set_option maxHeartbeats 2000000 in
theorem doneCl_any (L : List Cl) (k g cap sb : Nat) (W : World) (hL : L.length = k + 1) (hF : Flat 12 W g cap (k + 1) (flatCl L)) (hB : BoxAt W sb [.slice (some ⟨g, 0, none⟩) (k + 1) cap]) (x y : Fin (k + 1)) :
    Calls Try.prog 110 #[.int .i64 (x.val : Int), .int .i64 (y.val : Int), .pointer (some ⟨sb, 0, none⟩)] W fun e w' => e = .returned (.int .i64 (cfF L k x y)) ∧ ∃ q os', w' = grow (W.drewN q) os' := by
  obtain ⟨i, hi⟩ := x
  obtain ⟨j, hj⟩ := y
  obtain ⟨c, hc⟩ : ∃ c, L[i]? = some c := ⟨_, List.getElem?_eq_getElem (by omega)⟩
  obtain ⟨d, hd⟩ : ∃ d, L[j]? = some d := ⟨_, List.getElem?_eq_getElem (by omega)⟩
  have f1 := hF.cell (i * 12 + 7) (.int .i64 c.fin) (by rw [flatCl_get L i 7 c hc (by decide)]; rfl)
  have f2 := hF.cell (j * 12 + 7) (.int .i64 d.fin) (by rw [flatCl_get L j 7 d hd (by decide)]; rfl)
  obtain ⟨f0, _⟩ := hB.get 0 _ rfl
  have hbl := hB.lt
  have hgl := hF.lt
  obtain ⟨n, hn⟩ : ∃ n, k + 1 = n := ⟨_, rfl⟩
  have hiI : (i : Int) < (n : Int) := by omega
  have hjI : (j : Int) < (n : Int) := by omega
  have hin : i < n := by omega
  have hjn : j < n := by omega
  rw [hn] at f0
  have hC := hidq (fun w => comparen_any c.fin d.fin w)
  have he : cfF L k ⟨i, hi⟩ ⟨j, hj⟩ = cmpI c.fin d.fin := by unfold cfF; rw [finE_of hc, finE_of hd]
  rw [he]
  obtain ⟨v, hv⟩ : ∃ v, cmpI c.fin d.fin = v := ⟨_, rfl⟩
  rw [hv] at hC ⊢
  clear he hv hc hd hF hB hL hn
  show Calls Try.prog 110 #[.int .i64 (i : Int), .int .i64 (j : Int), .pointer (some ⟨sb, 0, none⟩)] W _
  go_enter Try.func110, Try.ntmps110
  go_wp2
  go_still_tail 10, (by kernel_rfl)
  go_wp2_with fail
  refine (hC.out _).mono ?_
  rintro e w1 ⟨rfl, hw1⟩
  subst w1
  go_wp2_with fail
  go_ret
  exact ⟨rfl, 1, #[], by rw [grow_empty]; rfl⟩
theorem but_sort1 {α : Type} [Inhabited α] (enc : α → Value) (w : World) (g n : Nat) (d : Array α) (os : Array Obj) : But (fun k => k = g) w (sortWorld enc w g 0 n d os) := by
  refine ⟨rfl, rfl, rfl, ?_, ?_⟩
  · unfold sortWorld
    rw [size_grow, size_putRow]
    exact Nat.le_add_right _ _
  · intro k hk hn
    unfold sortWorld
    rw [heap_grow_old _ _ (by rw [size_putRow]; exact hk)]
    unfold putRow mapBlock
    show (w.heap.modify g _)[k]? = _
    rw [Array.getElem?_modify, if_neg (fun e => hn e.symm)]
theorem sw_but {α : Type} [Inhabited α] {enc : α → Value} {w W : World} {g : Nat} {d : Array α} (h : SW enc w g 0 d W) : But (fun k => k = g) w W := by
  obtain ⟨m, os, rfl⟩ := h
  exact but_sort1 enc w g m d os
section
variable (L : List Cl) (k g cap sb blk bc : Nat) (d0 : Array (Fin (k + 1))) (w0 : World)
/-- What the sort is told. -/
structure Srt14 : Prop where
  len : L.length = k + 1
  flat : Flat 12 w0 g cap (k + 1) (flatCl L)
  box : BoxAt w0 sb [.slice (some ⟨g, 0, none⟩) (k + 1) cap]
  row : Row1 (encF k) w0 blk 0 d0
  ng : g ≠ blk
  ns : sb ≠ blk
theorem insert_any (h : Srt14 L k g cap sb blk d0 w0) (a b : Nat) (d : Array (Fin (k + 1))) (w : World) (hs : d0.size = d.size) (S : SW (encF k) w0 blk 0 d w) (hab : a ≤ b) (hb : b ≤ d.size) (hd : d.size ≤ 20) (n : Nat) (hn : d.size = n) :
    Calls Try.prog 150 #[.slice (some ⟨blk, 0, none⟩) n bc, .int .i64 (a : Int), .int .i64 (b : Int), .func (.func 110) #[] #[.pointer (some ⟨sb, 0, none⟩)]] w fun e w' =>
      e = .returned (.tuple #[]) ∧ SW (encF k) w0 blk 0 (insertionSort (ltE (fun i : Fin (k + 1) => finE L i.val)) d a b) w' := by
  have eg : ∀ args w, (callFunc 110 args).run Try.prog w = .ok (.enter 110 args) w := enters_of Try.func110 (by kernel_rfl) rfl
  have hC : CmpLays1 Try.prog 110 #[.pointer (some ⟨sb, 0, none⟩)] (encF k) (cfF L k) blk 0 d0.size w0 := fun m os dk _ x y => by
    have hb := but_sort1 (encF k) w0 blk m dk os
    exact doneCl_any L k g cap sb _ h.len (h.flat.but hb h.ng) (h.box.but hb h.ns) x y
  have := Any.insertionSortCmpFunc_s Try.insIt (encF k) (cfF L k) 110 #[.pointer (some ⟨sb, 0, none⟩)] blk 0 bc a b d0 d w0 w eg hC h.row hs S hab hb (by omega)
  rw [lt_cf, hn] at this
  exact this
set_option maxRecDepth 20000 in
set_option maxHeartbeats 2000000 in
theorem stab_any (h : Srt14 L k g cap sb blk d0 w0) (n : Nat) (hn : d0.size = n) (hn20 : n ≤ 20) :
    Calls Try.prog 125 #[.slice (some ⟨blk, 0, none⟩) n bc, .int .i64 (n : Int), .func (.func 110) #[] #[.pointer (some ⟨sb, 0, none⟩)]] w0 fun e w' =>
      e = .returned (.tuple #[]) ∧ SW (encF k) w0 blk 0 (insertionSort (ltE (fun i : Fin (k + 1) => finE L i.val)) d0 0 n) w' := by
  have hsz : (insertionSort (ltE (fun i : Fin (k + 1) => finE L i.val)) d0 0 20).size = d0.size ∨ n ≠ 20 := by
    by_cases e : n = 20
    · refine .inl ?_
      have := (insertionSort_holds (lt := ltE (fun i : Fin (k + 1) => finE L i.val)) ⟨fun x => by unfold ltE; simp, fun x y z a b => by unfold ltE at *; simp at *; omega, fun x y z a b => by unfold ltE at *; simp at *; omega⟩ d0 0 20 (by omega) (by omega)).1.1
      exact this
    · exact .inr e
  have hsame : ∀ d : Array (Fin (k + 1)), insertionSort (ltE (fun i : Fin (k + 1) => finE L i.val)) d 20 20 = d := fun d => by
    unfold insertionSort
    rw [insOuter, if_neg (by omega)]
  have H := hidq h
  have HN := hidq hn
  have HSZ := hidq hsz
  have HSM := hidq hsame
  have HS0 := hidq (show SW (encF k) w0 blk 0 d0 w0 from SW.start h.row.hH)
  clear h hsz hsame
  go_enter Try.func125, Try.ntmps125
  go_wp2_with fail
  go_loopw [7, 8] (fun s7 s8 wr => ∃ a b : Int, s7 = .int .i64 a ∧ s8 = .int .i64 b ∧ ((a = 0 ∧ b = 20 ∧ Hid (SW (encF k) w0 blk 0 d0 wr)) ∨ (n = 20 ∧ a = 20 ∧ b = 40 ∧ Hid (SW (encF k) w0 blk 0 (insertionSort (ltE (fun i : Fin (k + 1) => finE L i.val)) d0 0 n) wr)))) (fun _ s8 _ => 40 - (intOf s8).toNat)
  case atStart => exact ⟨0, 20, rfl, rfl, .inl ⟨rfl, rfl, HS0⟩⟩
  case round =>
    clear HS0
    obtain ⟨a, b, rfl, rfl, hc⟩ := hrel
    rcases hc with ⟨rfl, rfl, hX⟩ | ⟨h20, rfl, rfl, hX⟩
    · by_cases hlt : n = 20
      · have hle : (20 : Int) ≤ (n : Int) := by omega
        have hle2 : 20 ≤ n := by omega
        have hI := hidq (insert_any L k g cap sb blk bc d0 w0 H.out 0 20 d0 wr rfl hX.out (by decide) (by omega) (by omega) n hn)
        have HLT := hidq hlt
        clear hX hn hlt
        go_wp2_with fail
        refine (hI.out).mono ?_
        rintro e w2 ⟨rfl, hS2⟩
        have HS2 := hidq hS2
        clear hS2 hI
        go_wp2_with fail
        go_roundw
        case rel => exact ⟨20, 40, rfl, rfl, .inr ⟨HLT.out, rfl, rfl, hidq (by have h := HS2.out; rw [HLT.out]; exact h)⟩⟩
        case measure => simp [intOf]
      · have hd1 : decide ((20 : Int) ≤ (n : Int)) = false := decide_eq_false (by omega)
        have hd2 : decide (20 ≤ n) = false := decide_eq_false (by omega)
        have hI := hidq (insert_any L k g cap sb blk bc d0 w0 H.out 0 n d0 wr rfl hX.out (Nat.zero_le _) (by omega) (by omega) n hn)
        clear hX hn
        go_wp2_with fail
        refine (hI.out).mono ?_
        rintro e w2 ⟨rfl, HS3⟩
        clear hI hd1 hd2
        obtain ⟨w6, h6⟩ : ∃ w6, w6 = wr := ⟨_, rfl⟩
        subst h6
        go_wp2_with fail
        go_loopw [6] (fun s6 wr => s6 = .int .i64 20 ∧ Hid (SW (encF k) w0 blk 0 (insertionSort (ltE (fun i : Fin (k + 1) => finE L i.val)) d0 0 n) wr)) (fun _ _ => 0)
        case atStart => exact ⟨rfl, hidq HS3⟩
        case round =>
          obtain ⟨rfl, hZ⟩ := hrel
          have hd9 : decide ((20 : Int) < (n : Int)) = false := decide_eq_false (by omega)
          have hd8 : decide (20 < n) = false := decide_eq_false (by omega)
          go_wp2_with fail
          exact bodyPost_end (results_none Try.results125 _ _ _) rfl ⟨rfl, hZ.out⟩
    · have hd1 : decide ((40 : Int) ≤ (n : Int)) = false := decide_eq_false (by omega)
      have hd2 : decide (40 ≤ n) = false := decide_eq_false (by omega)
      have hsz2 : (insertionSort (ltE (fun i : Fin (k + 1) => finE L i.val)) d0 0 20).size = n := by
        rcases HSZ.out with e | e
        · rw [e]; exact hn
        · exact absurd h20 e
      have hI := hidq (insert_any L k g cap sb blk bc d0 w0 H.out 20 n (insertionSort (ltE (fun i : Fin (k + 1) => finE L i.val)) d0 0 20) wr (by rw [hsz2]; exact hn) (by have h := hX.out; rw [h20] at h; exact h) (by omega) (by omega) (by omega) n hsz2)
      have hsm : ∀ d : Array (Fin (k + 1)), insertionSort (ltE (fun i : Fin (k + 1) => finE L i.val)) d 20 n = d := fun d => by rw [h20]; exact HSM.out d
      rw [hsm] at hI
      clear hsm
      have HI := hidq hI
      have hn21 : ¬ 20 < n := by omega
      have HLT := hidq h20
      clear hX hn hsz2 hI h20
      go_wp2_with fail
      refine (HI.out).mono ?_
      rintro e w2 ⟨rfl, HS3⟩
      clear HI
      obtain ⟨w6, h6⟩ : ∃ w6, w6 = wr := ⟨_, rfl⟩
      subst h6
      go_wp2_with fail
      go_loopw [6] (fun s6 wr => s6 = .int .i64 20 ∧ Hid (SW (encF k) w0 blk 0 (insertionSort (ltE (fun i : Fin (k + 1) => finE L i.val)) d0 0 20) wr)) (fun _ _ => 0)
      case atStart => exact ⟨rfl, hidq HS3⟩
      case round =>
        obtain ⟨rfl, hZ⟩ := hrel
        go_wp2_with fail
        exact bodyPost_end (results_none Try.results125 _ _ _) rfl ⟨rfl, by rw [HLT.out]; exact hZ.out⟩
theorem sortst_any (h : Srt14 L k g cap sb blk d0 w0) (n : Nat) (hn : d0.size = n) (hn20 : n ≤ 20) :
    Calls Try.prog 109 #[.slice (some ⟨blk, 0, none⟩) n bc, .func (.func 110) #[] #[.pointer (some ⟨sb, 0, none⟩)]] w0 fun e w' =>
      e = .returned (.tuple #[]) ∧ SW (encF k) w0 blk 0 (insertionSort (ltE (fun i : Fin (k + 1) => finE L i.val)) d0 0 n) w' := by
  have hS := hidq (stab_any L k g cap sb blk bc d0 w0 h n hn hn20)
  clear h hn
  go_enter Try.func109, Try.ntmps109
  go_wp2_with fail
  refine (hS.out).mono ?_
  rintro e w2 ⟨rfl, h2⟩
  have H2 := hidq h2
  clear h2 hS
  go_wp2_with fail
  exact bodyPost_end (results_none Try.results109 _ _ _) rfl ⟨rfl, H2.out⟩
end
/-- The sort of nothing. -/
theorem insert0_any (f : Value) (w : World) : Calls Try.prog 150 #[.slice none 0 0, .int .i64 0, .int .i64 0, f] w fun e w' => e = .returned (.tuple #[]) ∧ w' = w := by
  go_enter Try.func150, Try.ntmps150
  go_wp2_with fail
  go_loopw [8] (fun s8 wr => s8 = .int .i64 1 ∧ wr = w) (fun _ _ => 0)
  case atStart => exact ⟨rfl, rfl⟩
  case round =>
    obtain ⟨rfl, rfl⟩ := hrel
    go_wp2_with fail
    exact bodyPost_end (results_none Try.results150 _ _ _) rfl ⟨rfl, rfl⟩
theorem stab0_any (f : Value) (w : World) : Calls Try.prog 125 #[.slice none 0 0, .int .i64 0, f] w fun e w' => e = .returned (.tuple #[]) ∧ w' = w := by
  have hI := fun w => insert0_any f w
  go_enter Try.func125, Try.ntmps125
  go_wp2_with fail
  go_loopw [7, 8] (fun s7 s8 wr => s7 = .int .i64 0 ∧ s8 = .int .i64 20 ∧ wr = w) (fun _ _ _ => 0)
  case atStart => exact ⟨rfl, rfl, rfl⟩
  case round =>
    obtain ⟨rfl, rfl, rfl⟩ := hrel
    go_wp2_with fail
    refine (hI _).mono ?_
    rintro e w2 ⟨rfl, hw2⟩
    subst w2
    clear hI
    obtain ⟨w6, h6⟩ : ∃ w6, w6 = wr := ⟨_, rfl⟩
    subst h6
    go_wp2_with fail
    go_loopw [6] (fun s6 wr => s6 = .int .i64 20 ∧ wr = w6) (fun _ _ => 0)
    case atStart => exact ⟨rfl, rfl⟩
    case round =>
      obtain ⟨rfl, rfl⟩ := hrel
      go_wp2_with fail
      exact bodyPost_end (results_none Try.results125 _ _ _) rfl ⟨rfl, rfl⟩
theorem sortst0_any (f : Value) (w : World) : Calls Try.prog 109 #[.slice none 0 0, f] w fun e w' => e = .returned (.tuple #[]) ∧ w' = w := by
  have hS := fun w => stab0_any f w
  go_enter Try.func109, Try.ntmps109
  go_wp2_with fail
  refine (hS _).mono ?_
  rintro e w2 ⟨rfl, hw2⟩
  subst w2
  go_wp2_with fail
  exact bodyPost_end (results_none Try.results109 _ _ _) rfl ⟨rfl, rfl⟩

/-- Was the call at a place done? -/
def isDn (L : List Cl) (j : Nat) : Bool := ((L[j]?).map Cl.done).getD false
theorem isDn_of {L : List Cl} {i : Nat} {c : Cl} (h : L[i]? = some c) : isDn L i = c.done := by unfold isDn; rw [h]; rfl
/-- The places of those that were, ahead of one. -/
def dns (L : List Cl) (i : Nat) : List Nat := (List.range i).filter (isDn L)
theorem dns_succ (L : List Cl) (i : Nat) : dns L (i + 1) = if isDn L i = true then dns L i ++ [i] else dns L i := by
  unfold dns
  rw [List.range_succ, List.filter_append]
  by_cases h : isDn L i = true
  · rw [if_pos h]; simp [h]
  · rw [if_neg h]; simp [h]
theorem dns_mem {L : List Cl} {i j : Nat} : j ∈ dns L i ↔ j < i ∧ isDn L j = true := by unfold dns; simp [List.mem_filter]
theorem dns_len (L : List Cl) (i : Nat) : (dns L i).length ≤ i := by unfold dns; exact Nat.le_trans (List.length_filter_le _ _) (by simp)
theorem dns_inc (L : List Cl) (i : Nat) : (dns L i).Pairwise (· < ·) := by unfold dns; exact List.Pairwise.filter _ List.pairwise_lt_range
/-- The places of all that were done, in the order in which they were. -/
structure DoneOf (L : List Cl) (S : List Nat) : Prop where
  mem : ∀ j, j ∈ S ↔ (j < L.length ∧ isDn L j = true)
  ord : S.Pairwise (fun x y => finE L x < finE L y ∨ (finE L x = finE L y ∧ x < y))
theorem dns_nil {L : List Cl} (h : dns L L.length = []) : DoneOf L [] := by
  refine ⟨fun j => ⟨fun e => (by cases e), fun e => ?_⟩, List.Pairwise.nil⟩
  have := dns_mem.2 e
  rw [h] at this
  exact this
/-- Places as the sort's. -/
def finA (k : Nat) (P : List Nat) : Array (Fin (k + 1)) := (P.map (fun j => Fin.ofNat (k + 1) j)).toArray
theorem finA_size (k : Nat) (P : List Nat) : (finA k P).size = P.length := by simp [finA]
theorem finA_get {k : Nat} {P : List Nat} (hP : ∀ j ∈ P, j ≤ k) {i x : Nat} (h : P[i]? = some x) : (finA k P)[i]!.val = x := by
  have hi := (List.getElem?_eq_some_iff.1 h).1
  have hx := hP x (List.mem_of_getElem? h)
  rw [getElem!_pos (finA k P) i (by rw [finA_size]; exact hi)]
  unfold finA
  simp only [List.getElem_toArray, List.getElem_map]
  obtain ⟨_, he⟩ := List.getElem?_eq_some_iff.1 h
  rw [he]
  show x % (k + 1) = x
  exact Nat.mod_eq_of_lt (by omega)
theorem doneOf_sort {L : List Cl} {k : Nat} (hL : L.length = k + 1) : DoneOf L ((insertionSort (ltE (fun i : Fin (k + 1) => finE L i.val)) (finA k (dns L L.length)) 0 (dns L L.length).length).toList.map Fin.val) := by
  have hP : ∀ j ∈ dns L L.length, j ≤ k := fun j hj => by have := (dns_mem.1 hj).1; omega
  have hinc : ∀ q m, q < m → m < (finA k (dns L L.length)).size → (finA k (dns L L.length))[q]!.val < (finA k (dns L L.length))[m]!.val := fun q m hq hm => by
    rw [finA_size] at hm
    obtain ⟨x, hx⟩ : ∃ x, (dns L L.length)[q]? = some x := ⟨_, List.getElem?_eq_getElem (by omega)⟩
    obtain ⟨y, hy⟩ : ∃ y, (dns L L.length)[m]? = some y := ⟨_, List.getElem?_eq_getElem hm⟩
    rw [finA_get hP hx, finA_get hP hy]
    obtain ⟨h1, e1⟩ := List.getElem?_eq_some_iff.1 hx
    obtain ⟨h2, e2⟩ := List.getElem?_eq_some_iff.1 hy
    have := (List.pairwise_iff_getElem.1 (dns_inc L L.length)) q m h1 h2 hq
    rw [e1, e2] at this
    exact this
  obtain ⟨_, h2, h3⟩ := stable_sorted (fun i : Fin (k + 1) => finE L i.val) (finA k (dns L L.length)) hinc
  rw [finA_size] at h2 h3
  refine ⟨fun j => ?_, ?_⟩
  · rw [← dns_mem]
    have hm := (h2.map Fin.val).mem_iff (a := j)
    rw [hm]
    have : (finA k (dns L L.length)).toList.map Fin.val = dns L L.length := by
      unfold finA
      simp only [List.map_map]
      conv => rhs; rw [← List.map_id (dns L L.length)]
      apply List.map_congr_left
      intro x hx
      show x % (k + 1) = x
      exact Nat.mod_eq_of_lt (by have := hP x hx; omega)
    rw [this]
  · rw [List.pairwise_map]
    exact h3
end Go.Proofs.Ytepigofpcjmddaa

namespace Go.Proofs.Ytepigofpcjmddaa
open Go.RowKit Go.Sort Go.Lib

/-- How Done ends. -/
def DoneEnd (L : List Cl) (w : World) (e : Ending) (w' : World) : Prop :=
  ∃ (S : List Nat) (a2 : Option Addr) (cap2 : Nat), e = .returned (.slice a2 S.length cap2) ∧ NsAt w' a2 (fun _ => False) S ∧ DoneOf L S ∧ Below w.heap.size w w'

set_option maxRecDepth 20000 in
set_option maxHeartbeats 8000000 in
theorem done14_any (L : List Cl) (a : Option Addr) (cap n : Nat) (w : World) (h : SlAt 12 w a cap n (flatCl L)) (hn : L.length = n) (hn20 : n ≤ 20) :
    Calls Try.prog 80 #[.slice a n cap] w (DoneEnd L w) := by
  have hsf := run_store_flt (P := Try.prog)
  obtain ⟨sb, hsb⟩ : ∃ sb, w.heap.size = sb := ⟨_, rfl⟩
  obtain ⟨W0, hW0⟩ : ∃ W0, w.alloc (.cells #[.slice a n cap] 102) = W0 := ⟨_, rfl⟩
  have hB0 := BoxAt.new w [.slice a n cap] 102
  rw [show w.alloc (.cells [.slice a n cap].toArray 102) = W0 from hW0, hsb] at hB0
  have hb0 : Below w.heap.size w W0 := by rw [← hW0]; exact (Below.refl _ _).alloc (Nat.le_refl _) _
  have hs0 : W0.heap.size = sb + 1 := by rw [← hW0, World.size_alloc, hsb]
  obtain ⟨f0, _⟩ := hB0.get 0 _ rfl
  have hbl := hB0.lt
  have HH := hidq (And.intro (h.below hb0) (And.intro hn (And.intro hb0 (And.intro hB0 hs0))))
  have HALT := hidq h.lt
  have hcap := h.le
  clear h hn hb0 hB0 hs0
  go_enter Try.func80, Try.ntmps80
  go_wp2_with fail
  go_loopw [3, 8] (fun s3 s8 wr => ∃ (i : Nat) (a2 : Option Addr) (cap2 m : Nat), s3 = .slice a2 m cap2 ∧ s8 = .int .i64 (i : Int) ∧ i ≤ n ∧ Hid (m = (dns L i).length ∧ SlAt 1 wr a2 cap2 m (vals (dns L i)) ∧ (m = 0 → a2 = none ∧ cap2 = 0) ∧ (∀ j, inB a2 j → W0.heap.size ≤ j) ∧ Below W0.heap.size W0 wr)) (fun _ s8 _ => n - (intOf s8).toNat)
  case atStart => exact ⟨0, none, 0, 0, rfl, rfl, Nat.zero_le _, hidq ⟨rfl, SlAt.nil 1 _, fun _ => ⟨rfl, rfl⟩, (fun j hj => by obtain ⟨x, hx, _⟩ := hj; cases hx), Below.refl _ _⟩⟩
  case round =>
    obtain ⟨i, a2, cap2, m, rfl, rfl, hi, hX⟩ := hrel
    by_cases hlt : i < n
    · have hltI : (i : Int) < (n : Int) := by omega
      obtain ⟨h, hn, hb0, hB0, hs0⟩ := HH.out
      obtain ⟨z1, z2, z3, z4, hbw⟩ := hX.out
      obtain ⟨c, hc⟩ : ∃ c, L[i]? = some c := ⟨_, List.getElem?_eq_getElem (by omega)⟩
      have hcell : ∀ j u, c.l[j]? = some u → ∃ g, a = some ⟨g, 0, none⟩ ∧ g < W0.heap.size ∧ W0.cell? ⟨g, i * 12 + j, none⟩ = some u := fun j u hu => by
        have hj : j < 12 := (List.getElem?_eq_some_iff.1 hu).1
        obtain ⟨g, h1, h2, h3⟩ := h.cell (t := i * 12 + j) (u := u) (by rw [flatCl_get L i j c hc hj]; exact hu)
        exact ⟨g, h1, h2, h3⟩
      obtain ⟨g, rfl, hgl, _⟩ := hcell 0 _ rfl
      have hrr : ∀ j u, c.l[j]? = some u → wr.cell? ⟨g, i * 12 + j, none⟩ = some u := fun j u hu => by
        obtain ⟨g', h1, _, h3⟩ := hcell j u hu
        cases h1
        rw [hbw.cell (p := ⟨g, i * 12 + j, none⟩) hgl]; exact h3
      have m0 : wr.cell? ⟨g, i * 12, none⟩ = some (.int .i64 c.thread) := hrr 0 _ rfl
      have m1 := hrr 1 _ rfl
      have m2 := hrr 2 _ rfl
      have m3 := hrr 3 _ rfl
      have m4 := hrr 4 _ rfl
      have m5 := hrr 5 _ rfl
      have m6 := hrr 6 _ rfl
      have m7 := hrr 7 _ rfl
      have m8 := hrr 8 _ rfl
      have m9 := hrr 9 _ rfl
      have m10 := hrr 10 _ rfl
      have m11 := hrr 11 _ rfl
      have hgr : g < wr.heap.size := Nat.lt_of_lt_of_le hgl hbw.size
      obtain ⟨xb, hxb⟩ : ∃ xb, wr.heap.size = xb := ⟨_, rfl⟩
      obtain ⟨W1, hW1⟩ : ∃ W1, wr.alloc (.cells #[.int .i64 c.thread, .int .i64 c.kind, .float .f64 c.pri, .int .i64 c.val, .int .i64 c.d0, .int .i64 c.d1, .int .i64 c.beg, .int .i64 c.fin, .bool c.ans.ok, .float .f64 c.ans.pri, .int .i64 c.ans.val, .int .i64 c.ans.n] 101) = W1 := ⟨_, rfl⟩
      have hX1 := BoxAt.new wr c.l 101
      rw [show wr.alloc (.cells c.l.toArray 101) = W1 from hW1, hxb] at hX1
      have hb1 : Below wr.heap.size wr W1 := by rw [← hW1]; exact (Below.refl _ _).alloc (Nat.le_refl _) _
      have HN := hidq (show ∀ W, Below W1.heap.size W1 W → SlAt 1 W a2 cap2 m (vals (dns L i)) ∧ Below W0.heap.size W0 W from fun W hW => ⟨(z2.below hb1).below hW, (hbw.trans (hb1.mono hbw.size)).trans (hW.mono (by have := hbw.size; have := hb1.size; omega))⟩)
      have HXX := hidq (And.intro z1 (And.intro z3 (And.intro z4 (isDn_of hc))))
      have hDn := hidq (fun w => cdone_any c w)
      obtain ⟨dn, hdn⟩ : ∃ dn, c.done = dn := ⟨_, rfl⟩
      rw [hdn] at hDn HXX
      have x0 := ((hX1).get 0 _ rfl).1
      have x1 := ((hX1).get 1 _ rfl).1
      have x2 := ((hX1).get 2 _ rfl).1
      have x3 := ((hX1).get 3 _ rfl).1
      have x4 := ((hX1).get 4 _ rfl).1
      have x5 := ((hX1).get 5 _ rfl).1
      have x6 := ((hX1).get 6 _ rfl).1
      have x7 := ((hX1).get 7 _ rfl).1
      have x8 := ((hX1).get 8 _ rfl).1
      have x9 := ((hX1).get 9 _ rfl).1
      have x10 := ((hX1).get 10 _ rfl).1
      have x11 := ((hX1).get 11 _ rfl).1
      have hxl := (hX1).lt
      clear h hn hb0 hB0 hs0 z1 z2 z3 z4 hbw hc hcell hrr hb1 hX1 hX hdn
      go_wp2_with fail
      refine (hDn.out _).mono ?_
      rintro e w2 ⟨rfl, hb2⟩
      have HB2 := hidq hb2
      clear hDn hb2 x0 m0 x1 m1 x2 m2 x3 m3 x4 m4 x5 m5 x6 m6 x7 m7 x8 m8 x9 m9 x10 m10 x11 m11 hW1 hxl hgr
      obtain ⟨z1, z3, z4, hdn⟩ := HXX.out
      obtain ⟨z2, hbw⟩ := HN.out w2 HB2.out
      cases dn with
      | false =>
        have HE := hidq (show m = (dns L (i + 1)).length ∧ SlAt 1 w2 a2 cap2 m (vals (dns L (i + 1))) ∧ (m = 0 → a2 = none ∧ cap2 = 0) ∧ (∀ j, inB a2 j → W0.heap.size ≤ j) ∧ Below W0.heap.size W0 w2 from by
          rw [dns_succ, hdn, if_neg (by decide)]
          exact ⟨z1, z2, z3, z4, hbw⟩)
        clear z1 z2 z3 z4 hbw hdn HN HXX HB2
        go_wp2_with fail
        go_roundw
        case rel => exact ⟨i + 1, a2, cap2, m, rfl, by go_num, by omega, HE⟩
        case measure => simp [intOf]; omega
      | true =>
        have hm20 : m ≤ 20 := by have := dns_len L i; omega
        have HSL := hidq z2
        have HX4 := hidq (And.intro z1 (And.intro z4 (And.intro hbw hdn)))
        have hm12 : m + 1 ≤ 1099511627776 := by omega
        clear z1 z2 z3 z4 hbw hdn HN HXX HB2
        go_wp2_with (at_builtin; refine wpList_sl plainN _ rfl (.tmp 15) (.tmp 17) rfl a2 cap2 m (vals (dns L i)) rfl (HSL.out.below ((Below.refl _ _).alloc (Nat.le_refl _) _)) _ rfl 1 [.int .i64 (i : Int)] (src_new 1 _ Try.underlying56 w2.heap.size [.int .i64 (i : Int)] rfl (fun j u hu => by rw [World.cell?_alloc_new]; simpa using hu) (by intro u hu; simp at hu; subst hu; rfl)) (by omega) hm12 ?_; intro g2 c2 w3 hF3 hb3 hg3; have HF3 := hidq hF3; have HB3 := hidq hb3; have HG3 := hidq hg3; clear hF3 hb3 hg3)
        have HE := hidq (show m + 1 = (dns L (i + 1)).length ∧ SlAt 1 w3 (some ⟨g2, 0, none⟩) c2 (m + 1) (vals (dns L (i + 1))) ∧ (m + 1 = 0 → (some (⟨g2, 0, none⟩ : Addr)) = none ∧ c2 = 0) ∧ (∀ j, inB (some ⟨g2, 0, none⟩) j → W0.heap.size ≤ j) ∧ Below W0.heap.size W0 w3 from by
          obtain ⟨z1, z4, hbw, hdn⟩ := HX4.out
          rw [dns_succ, hdn, if_pos rfl]
          refine ⟨by rw [List.length_append, z1]; rfl, .inr ⟨g2, rfl, ?_⟩, fun e => absurd e (by omega), ?_, ?_⟩
          · have := HF3.out
            rw [show vals (dns L i ++ [i]) = vals (dns L i) ++ [.int .i64 (i : Int)] by simp [vals]]
            exact this
          · rintro j ⟨y, hy, rfl⟩
            cases hy
            rcases HG3.out with q | q
            · exact z4 _ q
            · have := hbw.size
              rw [World.size_alloc] at q
              show W0.heap.size ≤ g2
              omega
          · exact (hbw.trans (((Below.refl _ _).alloc (Nat.le_refl _) _).mono hbw.size)).trans (HB3.out.below (by have := hbw.size; rw [World.size_alloc]; omega) (fun j hj => z4 j hj)))
        clear HX4 HSL HF3 HB3 HG3
        go_wp2_with fail
        go_roundw
        case rel => exact ⟨i + 1, some ⟨g2, 0, none⟩, c2, m + 1, rfl, by go_num, by omega, HE⟩
        case measure => simp [intOf]; omega
    · have hin : i = n := by omega
      have hd1 : decide ((i : Int) < (n : Int)) = false := decide_eq_false (by omega)
      have hd2 : decide (i < n) = false := decide_eq_false hlt
      have HIN := hidq hin
      clear hin
      by_cases hm0 : m = 0
      · subst hm0
        obtain ⟨h, hn, hb0, hB0, hs0⟩ := HH.out
        obtain ⟨z1, z2, z3, z4, hbw⟩ := hX.out
        obtain ⟨rfl, rfl⟩ := z3 rfl
        have hnil : dns L L.length = [] := by rw [hn, ← HIN.out]; exact List.length_eq_zero_iff.1 z1.symm
        have HE := hidq (show DoneEnd L w (.returned (.slice none 0 0)) wr from ⟨[], none, 0, rfl, (fun i v hv => by simp at hv), dns_nil hnil, hb0.trans (hbw.mono hb0.size)⟩)
        have hS := hidq (fun f => sortst0_any f wr)
        have hmf : ∀ (fn : Fn) (first cap : Array Value) (w : World), (Instr.makeFunc fn first cap).run Try.prog w = .ok (.func fn first cap) w := fun _ _ _ _ => rfl
        clear z1 z2 z3 z4 hbw h hn hb0 hB0 hs0 hX hnil
        go_wp2_with fail
        refine (hS.out _).mono ?_
        rintro e w2 ⟨rfl, hw2⟩
        subst w2
        go_wp2_with fail
        go_ret
        exact HE.out
      · obtain ⟨h, hn, hb0, hB0, hs0⟩ := HH.out
        obtain ⟨z1, z2, z3, z4, hbw⟩ := hX.out
        obtain ⟨k, hk⟩ : ∃ k, L.length = k + 1 := ⟨L.length - 1, by have := dns_len L i; omega⟩
        have hin := HIN.out
        rw [show i = L.length by omega] at z1 z2
        obtain ⟨blk, rfl, hF2⟩ : ∃ blk, a2 = some ⟨blk, 0, none⟩ ∧ Flat 1 wr blk cap2 m (vals (dns L L.length)) := by
          rcases z2 with ⟨_, e, _⟩ | ⟨blk, e1, e2⟩
          · exact absurd e hm0
          · exact ⟨blk, e1, e2⟩
        obtain ⟨g, rfl, hFl⟩ : ∃ g, a = some ⟨g, 0, none⟩ ∧ Flat 12 W0 g cap n (flatCl L) := by
          rcases h with ⟨_, e, _⟩ | ⟨g, e1, e2⟩
          · exact absurd e (by omega)
          · exact ⟨g, e1, e2⟩
        have hblk := z4 blk ⟨_, rfl, rfl⟩
        have hP : ∀ j ∈ dns L L.length, j ≤ k := fun j hj => by have := (dns_mem.1 hj).1; omega
        have hH : Holds (encF k) wr blk 0 (finA k (dns L L.length)) := fun j hj => by
          rw [finA_size] at hj
          obtain ⟨y, hy⟩ : ∃ y, (dns L L.length)[j]? = some y := ⟨_, List.getElem?_eq_getElem hj⟩
          rw [Nat.zero_add]
          refine ⟨?_, (hF2.there j (by have := hF2.le; omega)).2⟩
          have := hF2.cell j (.int .i64 (y : Int)) (by simp [vals, hy])
          rw [this]
          unfold encF
          rw [finA_get hP hy]
        have hR : Srt14 L k g cap sb blk (finA k (dns L L.length)) wr := ⟨hk, by rw [← hk, hn]; exact hFl.but (S := fun _ => False) (But.of_below hbw) id, by rw [← hk, hn]; exact hB0.below hbw, ⟨fun x => rfl, hH, hF2.lt⟩, (by have := hFl.lt; omega), (by omega)⟩
        have hS := hidq (sortst_any L k g cap sb blk cap2 (finA k (dns L L.length)) wr hR m (by rw [finA_size]; exact z1.symm) (by have := dns_len L L.length; omega))
        have HE := hidq (show ∀ w', SW (encF k) wr blk 0 (insertionSort (ltE (fun i : Fin (k + 1) => finE L i.val)) (finA k (dns L L.length)) 0 m) w' → DoneEnd L w (.returned (.slice (some ⟨blk, 0, none⟩) m cap2)) w' from fun w' hW => by
          have hb7 := sw_but hW
          have hd := doneOf_sort hk
          obtain ⟨S, hSe⟩ : ∃ S, insertionSort (ltE (fun i : Fin (k + 1) => finE L i.val)) (finA k (dns L L.length)) 0 m = S := ⟨_, rfl⟩
          rw [hSe] at hW
          rw [← z1, hSe] at hd
          have hss : S.size = (finA k (dns L L.length)).size := by
            have := (insertionSort_holds (lt := ltE (fun i : Fin (k + 1) => finE L i.val)) ⟨fun x => by unfold ltE; simp, fun x y z a b => by unfold ltE at *; simp at *; omega, fun x y z a b => by unfold ltE at *; simp at *; omega⟩ (finA k (dns L L.length)) 0 m (Nat.zero_le _) (by rw [finA_size]; omega)).1.1
            rw [hSe] at this
            exact this
          rw [finA_size, ← z1] at hss
          have hlen : (S.toList.map Fin.val).length = m := by simp [hss]
          refine ⟨S.toList.map Fin.val, some ⟨blk, 0, none⟩, cap2, by rw [hlen], fun t v hv => ?_, hd, (hb0.trans (hbw.mono hb0.size)).trans (hb7.below (by have := hb0.size; have := hbw.size; omega) (fun j e => by have := hb0.size; omega))⟩
          have ht : t < m := by have := (List.getElem?_eq_some_iff.1 hv).1; rw [hlen] at this; exact this
          have h1 := hW.c1 hR.row (by rw [hss, finA_size]; exact z1) t (by omega)
          refine ⟨blk, 0, rfl, Nat.lt_of_lt_of_le hF2.lt hb7.size, id, ?_⟩
          rw [h1]
          have : (S[t]!).val = v := by
            rw [List.getElem?_map, Array.getElem?_toList, Array.getElem?_eq_getElem (by omega)] at hv
            rw [getElem!_pos S t (by omega)]
            simpa using hv
          unfold encF
          rw [this])
        have hmf : ∀ (fn : Fn) (first cap : Array Value) (w : World), (Instr.makeFunc fn first cap).run Try.prog w = .ok (.func fn first cap) w := fun _ _ _ _ => rfl
        clear z1 z2 z3 z4 hbw h hn hb0 hB0 hs0 hX hF2 hFl hblk hP hH hR hin hk
        go_wp2_with fail
        refine (hS.out).mono ?_
        rintro e w2 ⟨rfl, hW2⟩
        have HF := hidq (HE.out w2 hW2)
        clear hW2 HE hS
        go_wp2_with fail
        go_ret
        exact HF.out
end Go.Proofs.Ytepigofpcjmddaa
