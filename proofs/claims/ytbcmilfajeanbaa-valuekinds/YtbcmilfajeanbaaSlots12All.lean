/-
  Layer 4's work: pile.Sorted: the canonical items in order, by the library's slices.SortFunc.
  Layer 8: what a Multi's memory holds.
  Layer 12: the items of all shards, in order: contract.
  Layer 9: what a queue's memory holds.
  Layer 12: the items of all slots that are full, by their versions: contract.
  slices.SortFunc at this program: a contract of the library, applied.
  Layer 12: cells in the order of their versions, by the library's slices.SortFunc: contract.
  Layer 5: how many cells, the clock: contracts.
  Layer 12: the items of all slots that are full, by their versions: contract.
-/
import Derived.Test.YtbcmilfajeanbaaSortIt
import Derived.Test.YtbcmilfajeanbaaPileA
import Derived.Test.YtbcmilfajeanbaaKit8All
import Derived.Test.YtbcmilfajeanbaaDel12All
import Derived.Shelf.SlSortCmp.NoneTotal
import Derived.Test.YtbcmilfajeanbaaProg
namespace Go.Proofs.Ytbcmilfajeanbaa
open Go.RowKit Go.Sort Go.Lib

def encK (x : KI) : List Value := [.float .f64 x.b, .int .i64 x.v]
def cfK (x y : KI) : Int := cmpN x.b x.v y.b y.v
theorem ltK : ltOf cfK = KI.lt := rfl

theorem closure_any (x y : KI) (W : World) : Calls Try.prog 73 #[.agg #[.float .f64 x.b, .int .i64 x.v], .agg #[.float .f64 y.b, .int .i64 y.v]] W fun e w' => e = .returned (.int .i64 (cfK x y)) ∧ ∃ q os', w' = grow (W.drewN q) os' := by
  have hC := fun w => icmp_any x.b y.b x.v y.v w x.ok.1 y.ok.1
  have hcf : cfK x y = cmpN x.b x.v y.b y.v := rfl
  rw [hcf]
  clear hcf
  generalize cmpN x.b x.v y.b y.v = c at *
  go_enter Try.func73, Try.ntmps73
  go_wp2_with (go_at_call 43; refine (hC _).mono ?_; rintro e w' ⟨rfl, hw⟩; replace hw := hw.symm; subst hw)
  go_ret
  exact ⟨rfl, 0, _, by rw [alloc_eq_grow, alloc_eq_grow, alloc_eq_grow, alloc_eq_grow, grow_grow, grow_grow, grow_grow]; rfl⟩

theorem cmpLays (blk off size : Nat) (w : World) : CmpLays Try.prog 73 #[] encK 2 cfK blk off size w :=
  fun _ _ _ _ x y => closure_any x y _

theorem flat0 (d : Array KI) (i : Nat) (h : i < d.size) : (flatK encK 2 d)[i * 2]! = .float .f64 d[i]!.b := by
  rw [get_flatK _ _ _ _ (by omega), Nat.mul_div_cancel _ (by decide), Nat.mul_mod_left]; rfl
theorem flat1 (d : Array KI) (i : Nat) (h : i < d.size) : (flatK encK 2 d)[i * 2 + 1]! = .int .i64 d[i]!.v := by
  rw [get_flatK _ _ _ _ (by omega), show (i * 2 + 1) / 2 = i by omega, show (i * 2 + 1) % 2 = 1 by omega]; rfl
theorem Row.holdsK {w : World} {g cap : Nat} {d : Array KI} (h : Row w g cap d) : HoldsK encK 2 w g 0 d := by
  intro j hj
  rw [size_flatK] at hj
  have hle := h.le
  rw [Nat.zero_add]
  refine ⟨?_, (h.there j (by omega)).2⟩
  show _ = some ((flatK encK 2 d)[j]!)
  rcases Nat.mod_two_eq_zero_or_one j with e | e
  · obtain ⟨i, rfl⟩ : ∃ i, j = i * 2 := ⟨j / 2, by omega⟩
    rw [flat0 d i (by omega)]; exact h.flt i (by omega)
  · obtain ⟨i, rfl⟩ : ∃ i, j = i * 2 + 1 := ⟨j / 2, by omega⟩
    rw [flat1 d i (by omega)]; exact h.val i (by omega)

theorem but_sort (w : World) (g n : Nat) (d : Array KI) (os : Array Obj) : But (fun k => k = g) w (sortWorldK encK 2 w g 0 n d os) := by
  refine ⟨rfl, rfl, rfl, ?_, ?_⟩
  · unfold sortWorldK putRowK
    rw [size_grow, size_putRow]
    exact Nat.le_add_right _ _
  · intro k hk hn
    unfold sortWorldK putRowK
    rw [heap_grow_old _ _ (by rw [size_putRow]; exact hk)]
    unfold putRow mapBlock
    show (w.heap.modify g _)[k]? = _
    rw [Array.getElem?_modify, if_neg (fun e => hn e.symm)]
theorem row_sort {w : World} {g n m : Nat} {d d' : Array KI} (h : Row w g n d) (hn : d.size = n) (hs : d'.size = d.size) (os : Array Obj) : Row (sortWorldK encK 2 w g 0 m d' os) g n d' := by
  have hb := but_sort w g m d' os
  have hl : g < (putRow id (Sort.ahead w m) g 0 (flatK encK 2 d')).heap.size := by rw [size_putRow]; exact h.lt
  have hH0 : Holds id (Sort.ahead w m) g 0 (flatK encK 2 d) := h.holdsK
  have hH : Holds id (sortWorldK encK 2 w g 0 m d' os) g 0 (flatK encK 2 d') :=
    holds_grow id _ os g 0 _ hl (holds_putRow id (Sort.ahead w m) g 0 _ _ hH0 (by rw [size_flatK, size_flatK, hs]))
  refine ⟨Nat.lt_of_lt_of_le h.lt hb.size, by rw [hs]; exact h.le, by rw [hs]; exact h.max, h.cmax, ?_, ?_, ?_⟩
  · intro i hi
    have := (hH (i * 2) (by rw [size_flatK]; omega)).1
    rw [Nat.zero_add, flat0 d' i hi] at this
    exact this
  · intro i hi
    have := (hH (i * 2 + 1) (by rw [size_flatK]; omega)).1
    rw [Nat.zero_add, flat1 d' i hi] at this
    exact this
  · intro j hj
    have := hH j (by rw [size_flatK, hs, hn]; exact hj)
    rw [Nat.zero_add] at this
    exact ⟨by rw [this.1]; rfl, this.2⟩

/-- The canonical items in order. -/
def srt (L : List KI) : List KI := L.mergeSort fun x y => !(KI.lt y x)

theorem sorted_any (a : Option Addr) (n cap : Nat) (P : Nat → Nat) (V : Nat → Int) (w : World) (h : Items w a n P V) (hn : n ≤ 1099511627776) :
    Calls Try.prog 38 #[.slice a n cap] w fun e w' => ∃ g, e = .returned (.slice (some ⟨g, 0, none⟩) n n) ∧ w.heap.size ≤ g ∧ Row w' g n (srt (canArr P V n n).toList).toArray ∧ Below w.heap.size w w' := by
  have hcan := canonical_any a n cap P V w h hn
  have eg : ∀ args w, (callFunc 73 args).run Try.prog w = .ok (.enter 73 args) w := enters_of Try.func73 (by kernel_rfl) rfl
  have hsort : ∀ w1 g, w.heap.size ≤ g → Row w1 g n (canArr P V n n) → Below w.heap.size w w1 → Calls Try.prog 72 #[.slice (some ⟨g, 0, none⟩) n n, .func (.func 73) #[] #[]] w1 fun e w' => e = .returned (.tuple #[]) ∧ Row w' g n (srt (canArr P V n n).toList).toArray ∧ Below w.heap.size w w' := by
    intro w1 g hg hR hB
    have hz := canArr_size P V n n
    have := AnyQ.slices_SortFunc_total Try.sortIt 2 Try.isAgg39 Try.sizeOf39 encK (fun _ => rfl) (fun x v hv => by simp [encK] at hv; rcases hv with rfl | rfl <;> rfl) cfK (by rw [ltK]; exact KI.swo) 73 #[] g 0 n (canArr P V n n) w1 eg (cmpLays g 0 _ w1) hR.holdsK hR.lt (by rw [hz]; omega) (by rw [ltK]; exact KI.total)
    rw [hz] at this
    refine Calls.mono this ?_
    rintro e w' ⟨rfl, m, os, rfl⟩
    rw [ltK]
    refine ⟨rfl, row_sort hR hz (by simp [hz, List.length_mergeSort]) os, hB.trans ((but_sort w1 g m _ os).below hB.size (fun k e => by omega))⟩
  clear h hn eg
  go_enter Try.func38, Try.ntmps38
  go_wp2_with fail
  refine hcan.mono ?_
  rintro e w1 ⟨g, rfl, hg, hR, hB⟩
  go_wp2_with fail
  refine (hsort _ g hg hR hB).mono ?_
  rintro e w2 ⟨rfl, hR2, hB2⟩
  clear hR hB hcan hsort
  go_wp2
  go_ret
  exact ⟨g, rfl, hg, hR2, hB2⟩
end Go.Proofs.Ytbcmilfajeanbaa

namespace Go.Proofs.Ytbcmilfajeanbaa
open Go.RowKit Go.Sort

/-- Items in order, canonical, no more than so many. -/
def KOk (n : Nat) (L : List It) : Prop := ∃ K, L = kit K ∧ InOrder K ∧ K.length ≤ n
theorem KOk.nil (n : Nat) : KOk n [] := ⟨[], rfl, List.Pairwise.nil, Nat.zero_le _⟩
def MOk (M : Mem) : Prop := ∀ i, KOk 62 (M.cell i).L
theorem MOk.look {M : Mem} (h : MOk M) (i : Int) : KOk 62 (M.look i).L := by
  unfold Mem.look
  split
  · exact KOk.nil _
  · exact h _
theorem MOk.empty : MOk Mem.empty := fun _ => KOk.nil _
end Go.Proofs.Ytbcmilfajeanbaa

namespace Go.Proofs.Ytbcmilfajeanbaa
open Go.RowKit Go.Sort

theorem row_flat {w : World} {g cap : Nat} {K : List KI} (h : Row w g cap K.toArray) : Flat 2 w g cap K.length (flatI (kit K)) := by
  have hz : K.toArray.size = K.length := by simp
  refine ⟨h.lt, by rw [flatI_length, kit_length], by have := h.le; omega, h.cmax, fun t u hu => ?_, flatI_one _, h.there⟩
  have ht : t < (flatI (kit K)).length := (List.getElem?_eq_some_iff.1 hu).1
  rw [flatI_length, kit_length] at ht
  have hi : t / 2 < (kit K).length := by rw [kit_length]; omega
  obtain ⟨e1, e2⟩ := flatI_get (kit K) (t / 2) hi
  have hx : K.toArray[t / 2]! = K[t / 2]'(by omega) := by rw [getElem!_pos K.toArray (t / 2) (by omega)]; rfl
  rcases Nat.mod_two_eq_zero_or_one t with e | e
  · have et : t / 2 * 2 = t := by omega
    rw [et, hu] at e1
    cases e1
    have := h.flt (t / 2) (by omega)
    rw [et, hx] at this
    rw [this]
    simp [kit]
  · have et : t / 2 * 2 + 1 = t := by omega
    rw [et, hu] at e2
    cases e2
    have := h.val (t / 2) (by omega)
    rw [et, hx] at this
    rw [this]
    simp [kit]

/-- The items of the first shards, one behind the other. -/
def catL (M : Mem) : Nat → List It
  | 0 => []
  | k + 1 => catL M k ++ (M.look (k : Int)).L
theorem catL_ok {M : Mem} (h : MOk M) : ∀ k, ∃ K : List KI, catL M k = kit K ∧ K.length ≤ 62 * k
  | 0 => ⟨[], rfl, Nat.zero_le _⟩
  | k + 1 => by
    obtain ⟨K, h1, h2⟩ := catL_ok h k
    obtain ⟨K2, h3, _, h4⟩ := h.look (k : Int)
    refine ⟨K ++ K2, ?_, by rw [List.length_append]; omega⟩
    show catL M k ++ (M.look (k : Int)).L = _
    rw [h1, h3]
    simp [kit]
/-- The items of all shards, in order. -/
def shK (M : Mem) (c : Nat) : List KI := srt (kis (catL M c))

set_option maxRecDepth 10000 in
set_option maxHeartbeats 2000000 in
theorem inShards_any (b : Nat) (O : Nat → Prop) (M : Mem) (c : Nat) (hc : c ≤ 1000) (w : World) (h : MemAt w b O M) (hM : MOk M) :
    Calls Try.prog 31 #[.pointer (some ⟨b, 0, none⟩), .int .i64 (c : Int)] w fun e w' => ∃ a cap, e = .returned (.slice a (shK M c).length cap) ∧ SlAt 2 w' a cap (shK M c).length (flatI (kit (shK M c))) ∧ (∀ j, inB a j → w.heap.size ≤ j) ∧ Below w.heap.size w w' := by
  have HM := hidq (And.intro h hM)
  have hfd := cell_value
  have hfl := value_l
  clear h hM
  go_enter Try.func31, Try.ntmps31
  go_wp2
  go_loopw [5, 8] (fun l i wr => ∃ (k : Nat) (a : Option Addr) (cap : Nat), l = .slice a (catL M k).length cap ∧ i = .int .i64 (k : Int) ∧ k ≤ c ∧ SlAt 2 wr a cap (catL M k).length (flatI (catL M k)) ∧ (∀ j, inB a j → w.heap.size ≤ j) ∧ Below w.heap.size w wr) (fun _ i _ => c - (intOf i).toNat)
  case atStart => exact ⟨0, none, 0, rfl, rfl, Nat.zero_le _, SlAt.nil _ _, fun j hj => (by obtain ⟨x, hx, _⟩ := hj; cases hx), Below.refl _ _⟩
  case round =>
    obtain ⟨k, a, cap, rfl, rfl, hk, hS, hA, hB⟩ := hrel
    obtain ⟨K, hK, hKl⟩ := catL_ok HM.out.2 k
    have hlen : (catL M k).length ≤ 62 * k := by rw [hK, kit_length]; exact hKl
    by_cases hlt : k < c
    · have hR := hidq (read5_any b O M (k : Int) wr (HM.out.1.below hB))
      have hd : (k : Int) < (c : Int) := by omega
      obtain ⟨K2, hK2, _, hK2l⟩ := HM.out.2.look (k : Int)
      have hlen2 : (M.look (k : Int)).L.length ≤ 62 := by rw [hK2, kit_length]; exact hK2l
      have hT : catL M (k + 1) = catL M k ++ (M.look (k : Int)).L := rfl
      have HT := hidq hT
      have HB := hidq hB
      have HS := hidq (And.intro hS hA)
      clear hT hB hS hA hK hK2
      generalize hn1 : (catL M k).length = n1 at *
      generalize hl1 : catL M k = l1 at *
      go_wp2_with fail
      refine hR.out.mono ?_
      rintro e w1 ⟨a', cap', rfl, hS2, hA2, hb1⟩
      have HB1 := hidq hb1
      have HS2 := hidq hS2
      clear hb1 hR hS2 hA2
      generalize hn2 : (M.look (k : Int)).L.length = n2 at *
      go_wp2_with (at_builtin; refine wpList_sla plainI _ rfl (.tmp 11) (.tmp 16) rfl a cap n1 (flatI l1) rfl (HS.out.1.below HB1.out) _ rfl n2 (flatI (M.look (k : Int)).L) (HS2.out.src Try.underlying26) (by omega) ?_; intro a3 c3 w3 h3 h3b h3i)
      refine ⟨⟨k + 1, a3, c3, ?_, by first | rfl | (congr 1; omega), by omega, ?_, ?_, ?_⟩, by simp [intOf]; omega⟩
      · rw [HT.out, List.length_append, hn2, hn1]
      · rw [HT.out, List.length_append, hn2, hn1, flatI_append]; exact h3
      · intro j hj
        have := HB.out.size
        have := HB1.out.size
        rcases h3i j hj with e | e
        · exact HS.out.2 j e
        · omega
      · have q1 := HB.out.size
        have q2 := HB1.out.size
        exact (HB.out.trans (HB1.out.mono q1)).trans (h3b.below (by omega) HS.out.2)
    · have hd : decide ((k : Int) < (c : Int)) = false := decide_eq_false (by omega)
      have hkc : k = c := by omega
      subst hkc
      have hS' : SlAt 2 wr a cap (catL M k).length (flatI (kit K)) := by rw [← hK]; exact hS
      have hI := items_of (n := (catL M k).length) (K := K) (by rw [hK, kit_length]) hS'
      have hSo := sorted_any a (catL M k).length cap _ _ wr hI (by omega)
      rw [can_kit K (catL M k).length (by rw [hK, kit_length])] at hSo
      have hsk : shK M k = srt K := by unfold shK; rw [hK, kis_kit]
      have hsl : (shK M k).length = (catL M k).length := by rw [hsk, (show (srt K).Perm K from List.mergeSort_perm _ _).length_eq, hK, kit_length]
      rw [← hsk] at hSo
      have HB := hidq hB
      have HL := hidq hsl
      clear hB hI hsk hsl hK hS hA hS'
      generalize hn1 : (catL M k).length = n1 at *
      go_wp2_with fail
      refine hSo.mono ?_
      rintro e w1 ⟨g, rfl, hg, hR, hb1⟩
      have HE := hidq (And.intro hR (And.intro hg hb1))
      clear hR hg hb1 hSo
      go_wp2
      go_ret
      obtain ⟨hR, hg, hb1⟩ := HE.out
      have q1 := HB.out.size
      refine ⟨some ⟨g, 0, none⟩, n1, by rw [HL.out]; rfl, .inr ⟨g, rfl, ?_⟩, fun j hj => ?_, HB.out.trans (hb1.mono q1)⟩
      · have := row_flat hR
        rw [HL.out] at this ⊢
        exact this
      · obtain ⟨x, hx, hxj⟩ := hj
        cases hx
        have : g = j := hxj
        omega
end Go.Proofs.Ytbcmilfajeanbaa

namespace Go.Proofs.Ytbcmilfajeanbaa
open Go.RowKit Go.Sort

/-- A queue's memory. -/
def KM (M : Mem) : Prop := (∀ i, 0 ≤ (M.cell i).n ∧ (M.cell i).n ≤ (M.clock : Int) + 2) ∧ ∀ i, 2 ≤ i → (M.cell i).n = 1 → ∃ x : KI, (M.cell i).L = kit [x]
theorem KM.empty : KM Mem.empty := ⟨fun _ => ⟨Int.le_refl _, by show (0 : Int) ≤ 0 + 2; omega⟩, fun i _ h => by cases h⟩
end Go.Proofs.Ytbcmilfajeanbaa

namespace Go.Proofs.Ytbcmilfajeanbaa
open Go.RowKit Go.Sort Go.Lib

theorem flatMap_get {α : Type} (enc : α → List Value) (k : Nat) (hl : ∀ x, (enc x).length = k) : ∀ (l : List α) (i j : Nat) (hi : i < l.length), j < k → (l.flatMap enc)[i * k + j]? = (enc l[i])[j]?
  | x :: l, 0, j, _, hj => by
    rw [List.flatMap_cons, Nat.zero_mul, Nat.zero_add, List.getElem?_append_left (by rw [hl]; exact hj)]
    rfl
  | x :: l, i + 1, j, hi, hj => by
    have e : (i + 1) * k + j - k = i * k + j := by rw [Nat.succ_mul]; omega
    rw [List.flatMap_cons, List.getElem?_append_right (by rw [hl, Nat.succ_mul]; omega), hl, e]
    exact flatMap_get enc k hl l i j (by simpa using hi) hj
theorem flatMap_len {α : Type} (enc : α → List Value) (k : Nat) (hl : ∀ x, (enc x).length = k) : ∀ l : List α, (l.flatMap enc).length = l.length * k
  | [] => by simp
  | x :: l => by rw [List.flatMap_cons, List.length_append, hl, flatMap_len enc k hl l, List.length_cons, Nat.succ_mul]; omega

/-- A cell that is full: its version, its items, where they lie. -/
structure FC where
  ver : Int
  K : List KI
  a : Option Addr
  cap : Nat
abbrev FC.l (x : FC) : List Value := [.int .u64 x.ver, .int .i64 1, .slice x.a x.K.length x.cap]
theorem FC.len (x : FC) : x.l.length = 3 := rfl
def FC.key (x : FC) : Int × List KI := (x.ver, x.K)
/-- Of the first cells those that are full. -/
def fullK (M : Mem) : Nat → List (Int × List KI)
  | 0 => []
  | k + 1 => fullK M k ++ (if 2 ≤ k ∧ (M.cell k).n = 1 then [((M.cell k).ver, kis (M.cell k).L)] else [])
/-- By versions. -/
def byVer (p q : Int × List KI) : Bool := !decide (q.1 < p.1)
/-- The items of all slots. -/
def slK (M : Mem) : List KI := ((fullK M (max M.len 2)).mergeSort byVer).flatMap (fun p => p.2)
theorem fullK_mem {M : Mem} : ∀ {k : Nat} {p : Int × List KI}, p ∈ fullK M k → ∃ i, i < k ∧ 2 ≤ i ∧ (M.cell i).n = 1 ∧ p = ((M.cell i).ver, kis (M.cell i).L)
  | 0, p, h => by cases h
  | k + 1, p, h => by
    rcases List.mem_append.1 h with h | h
    · obtain ⟨i, h1, h2⟩ := fullK_mem h
      exact ⟨i, by omega, h2⟩
    · split at h
      · next e => exact ⟨k, by omega, e.1, e.2, List.mem_singleton.1 h⟩
      · cases h
theorem fullK_len (M : Mem) : ∀ k, (fullK M k).length ≤ k
  | 0 => Nat.le_refl _
  | k + 1 => by
    have := fullK_len M k
    show (fullK M k ++ _).length ≤ _
    rw [List.length_append]
    split
    · simp; omega
    · simp; omega
theorem fullK_nodup {M : Mem} (h : ∀ i j, (M.cell i).ver = (M.cell j).ver → ¬ (M.cell i).ver = 0 → i = j) (h0 : ∀ i, ¬ (M.cell i).n = 0 → ¬ (M.cell i).ver = 0) : ∀ k, (fullK M k).Pairwise (fun p q => p.1 ≠ q.1)
  | 0 => List.Pairwise.nil
  | k + 1 => by
    show (fullK M k ++ _).Pairwise _
    refine List.pairwise_append.2 ⟨fullK_nodup h h0 k, ?_, fun p hp q hq e => ?_⟩
    · split
      · exact List.pairwise_singleton _ _
      · exact List.Pairwise.nil
    · split at hq
      · next hk =>
        rw [List.mem_singleton] at hq
        subst hq
        obtain ⟨i, h1, _, h3, rfl⟩ := fullK_mem hp
        have := h i k e (h0 i (by rw [h3]; decide))
        omega
      · cases hq

theorem plainCe : PlainK Try.prog 3 86 114 := by
  have h : (Try.prog.info? 114).map (fun i => (i.zero, i.size, i.bytes)) = some (some (.agg #[.int .u64 0, .int .i64 0, .slice none 0 0]), 3, 40) := by kernel_rfl
  obtain ⟨i, hi, he⟩ := Option.map_eq_some_iff.1 h
  simp only [Prod.mk.injEq] at he
  exact ⟨i, _, Try.underlying86, hi, he.1, he.2.1, rfl, by rw [he.2.2]; decide⟩

/-- How the full ones lie. -/
structure FCs (w0 w : World) (a : Option Addr) (cap : Nat) (fs : List FC) : Prop where
  sl : SlAt 3 w a cap fs.length (fs.flatMap FC.l)
  its : ∀ x ∈ fs, SlAt 2 w x.a x.cap x.K.length (flatI (kit x.K)) ∧ ∀ j, inB x.a j → ¬ inB a j
  up : ∀ j, inB a j → w0.heap.size ≤ j
theorem FCs.below {w0 w w' : World} {a : Option Addr} {cap : Nat} {fs : List FC} (h : FCs w0 w a cap fs) (hb : Below w.heap.size w w') : FCs w0 w' a cap fs :=
  ⟨h.sl.below hb, fun x hx => ⟨(h.its x hx).1.below hb, (h.its x hx).2⟩, h.up⟩


theorem FCs.push {w0 w w' : World} {a a' : Option Addr} {cap cap' : Nat} {fs : List FC} {x : FC} (h : FCs w0 w a cap fs) (h0 : w0.heap.size ≤ w.heap.size) (hx : SlAt 2 w x.a x.cap x.K.length (flatI (kit x.K))) (hxa : ∀ j, inB x.a j → ¬ inB a j)
    (hS : SlAt 3 w' a' cap' (fs.length + 1) (fs.flatMap FC.l ++ x.l)) (hb : But (inB a) w w') (hi : ∀ j, inB a' j → inB a j ∨ w.heap.size ≤ j) : FCs w0 w' a' cap' (fs ++ [x]) := by
  refine ⟨?_, fun y hy => ?_, fun j hj => ?_⟩
  · rw [List.flatMap_append, List.length_append]
    simpa using hS
  · rcases List.mem_append.1 hy with hy | hy
    · obtain ⟨h1, h2⟩ := h.its y hy
      refine ⟨h1.but hb (fun j hj => h2 j hj), fun j hj e => ?_⟩
      rcases hi j e with q | q
      · exact h2 j hj q
      · have := h1.lt j hj; omega
    · rw [List.mem_singleton] at hy
      subst hy
      refine ⟨hx.but hb (fun j hj => hxa j hj), fun j hj e => ?_⟩
      rcases hi j e with q | q
      · exact hxa j hj q
      · have := hx.lt j hj; omega
  · rcases hi j hj with q | q
    · exact h.up j q
    · omega

end Go.Proofs.Ytbcmilfajeanbaa

namespace Go.Proofs
open Go.Shelf
def Try.sortCe_ren : Go.Shelf.Ren := ⟨fun | 6 => 65 | 15 => 89 | 14 => 88 | 28 => 108 | 29 => 109 | 20 => 100 | 21 => 101 | 22 => 102 | 23 => 103 | 24 => 104 | 25 => 105 | 26 => 106 | 27 => 107 | 46 => 120 | 47 => 121 | 48 => 122 | 49 => 123 | 50 => 124 | 57 => 129 | n => n, fun | 22 => 86 | 24 => 114 | 25 => 119 | 3 => 3 | 39 => 144 | 0 => 0 | 53 => 163 | 55 => 22 | 4 => 4 | 46 => 156 | 45 => 155 | 50 => 160 | 5 => 5 | 9 => 9 | 66 => 171 | 70 => 175 | 76 => 181 | 77 => 77 | n => n, fun | n => n⟩
theorem Try.sortCe : Go.Proofs.SlLaysF0.n6 Try.prog Try.sortCe_ren := {
  mixed := by kernel_rfl
  f6 := ⟨Try.f65.name, by decide, Try.func65.trans (congrArg some (by kernel_rfl))⟩
  f14 := ⟨Try.f88.name, by decide, Try.func88.trans (congrArg some (by kernel_rfl))⟩
  f15 := Try.func89.trans (congrArg some (by kernel_rfl))
  f20 := ⟨Try.f100.name, by decide, Try.func100.trans (congrArg some (by kernel_rfl))⟩
  f21 := ⟨Try.f101.name, by decide, Try.func101.trans (congrArg some (by kernel_rfl))⟩
  f22 := ⟨Try.f102.name, by decide, Try.func102.trans (congrArg some (by kernel_rfl))⟩
  f23 := ⟨Try.f103.name, by decide, Try.func103.trans (congrArg some (by kernel_rfl))⟩
  f24 := ⟨Try.f104.name, by decide, Try.func104.trans (congrArg some (by kernel_rfl))⟩
  f25 := ⟨Try.f105.name, by decide, Try.func105.trans (congrArg some (by kernel_rfl))⟩
  f26 := ⟨Try.f106.name, by decide, Try.func106.trans (congrArg some (by kernel_rfl))⟩
  f27 := ⟨Try.f107.name, by decide, Try.func107.trans (congrArg some (by kernel_rfl))⟩
  f28 := Try.func108.trans (congrArg some (by kernel_rfl))
  f29 := Try.func109.trans (congrArg some (by kernel_rfl))
  f46 := ⟨Try.f120.name, by decide, Try.func120.trans (congrArg some (by kernel_rfl))⟩
  f47 := Try.func121.trans (congrArg some (by kernel_rfl))
  f48 := Try.func122.trans (congrArg some (by kernel_rfl))
  f49 := ⟨Try.f123.name, by decide, Try.func123.trans (congrArg some (by kernel_rfl))⟩
  f50 := ⟨Try.f124.name, by decide, Try.func124.trans (congrArg some (by kernel_rfl))⟩
  f57 := ⟨Try.f129.name, by decide, Try.func129.trans (congrArg some (by kernel_rfl))⟩
  t0 := Try.underlying0
  a0 := Try.isAgg0
  z0 := Try.sizeOf0
  v0 := Try.zeroValue0
  t3 := Try.underlying3
  a3 := Try.isAgg3
  z3 := Try.sizeOf3
  v3 := Try.zeroValue3
  t4 := Try.underlying4
  a4 := Try.isAgg4
  z4 := Try.sizeOf4
  v4 := Try.zeroValue4
  t5 := Try.underlying5
  a5 := Try.isAgg5
  z5 := Try.sizeOf5
  v5 := Try.zeroValue5
  t9 := Try.underlying9
  a9 := Try.isAgg9
  z9 := Try.sizeOf9
  v9 := Try.zeroValue9
  t22 := Try.underlying86
  a22 := Try.isAgg86
  z22 := Try.sizeOf86
  v22 := Try.zeroValue86
  t25 := Try.underlying119
  a25 := Try.isAgg119
  z25 := Try.sizeOf119
  v25 := Try.zeroValue119
  t39 := Try.underlying144
  a39 := Try.isAgg144
  z39 := Try.sizeOf144
  v39 := Try.zeroValue144
  t45 := Try.underlying155
  a45 := Try.isAgg155
  z45 := Try.sizeOf155
  v45 := Try.zeroValue155
  t46 := Try.underlying156
  a46 := Try.isAgg156
  z46 := Try.sizeOf156
  v46 := Try.zeroValue156
  t50 := Try.underlying160
  a50 := Try.isAgg160
  z50 := Try.sizeOf160
  v50 := Try.zeroValue160
  t53 := Try.underlying163
  a53 := Try.isAgg163
  z53 := Try.sizeOf163
  v53 := Try.zeroValue163
  t55 := Try.underlying22
  a55 := Try.isAgg22
  z55 := Try.sizeOf22
  v55 := Try.zeroValue22
  t66 := Try.underlying171
  a66 := Try.isAgg171
  z66 := Try.sizeOf171
  v66 := Try.zeroValue171
  t70 := Try.underlying175
  a70 := Try.isAgg175
  z70 := Try.sizeOf175
  v70 := Try.zeroValue175
  t76 := Try.underlying181
  a76 := Try.isAgg181
  z76 := Try.sizeOf181
  v76 := Try.zeroValue181
  t77 := Try.underlying77
  a77 := Try.isAgg77
  z77 := Try.sizeOf77
  v77 := Try.zeroValue77 }
end Go.Proofs

namespace Go.Proofs.Ytbcmilfajeanbaa
open Go.RowKit Go.Sort Go.Lib

theorem cfC_lt (x y : Int) : decide (cmpI x y < 0) = decide (x < y) := by
  unfold cmpI
  split
  · next h => simp [h]
  · next h =>
    split
    · next h2 => simp; omega
    · next h2 => simp; omega
theorem closureC_any (x y : FC) (W : World) : Calls Try.prog 66 #[.agg x.l.toArray, .agg y.l.toArray] W fun e w' => e = .returned (.int .i64 (cmpI x.ver y.ver)) ∧ ∃ q os', w' = grow (W.drewN q) os' := by
  have hC := fun w => compare64_any x.ver y.ver w
  generalize cmpI x.ver y.ver = c at *
  obtain ⟨v, K, a, cap⟩ := x
  obtain ⟨v2, K2, a2, cap2⟩ := y
  dsimp only at *
  generalize K.length = n at *
  generalize K2.length = n2 at *
  go_enter Try.func66, Try.ntmps66
  go_wp2_with (go_at_call 67; refine (hC _).mono ?_; rintro e w' ⟨rfl, hw⟩; replace hw := hw.symm; subst hw)
  go_ret
  exact ⟨rfl, 0, _, by rw [alloc_eq_grow, alloc_eq_grow, grow_grow]; rfl⟩

section
variable {α : Type} [Inhabited α]
theorem flatK_at (enc : α → List Value) (k : Nat) (hk : 0 < k) (hl : ∀ x, (enc x).length = k) (d : Array α) (t : Nat) (ht : t < d.size * k) : (d.toList.flatMap enc)[t]? = some ((flatK enc k d)[t]!) := by
  have h1 : t / k < d.size := (Nat.div_lt_iff_lt_mul hk).2 ht
  have h2 : t % k < k := Nat.mod_lt _ hk
  have e : t = t / k * k + t % k := by have := Nat.div_add_mod t k; rw [Nat.mul_comm] at this; omega
  rw [get_flatK _ _ _ _ ht]
  conv => lhs; rw [e]
  rw [flatMap_get enc k hl d.toList (t / k) (t % k) (by simpa using h1) h2, getElem!_pos d (t / k) h1, Array.getElem_toList, List.getElem?_eq_getElem (by rw [hl]; exact h2), getElem!_pos _ _ (by rw [hl]; exact h2)]
theorem flat_holds (enc : α → List Value) (k : Nat) (hk : 0 < k) (hl : ∀ x, (enc x).length = k) {w : World} {g cap : Nat} {d : Array α} (h : Flat k w g cap d.size (d.toList.flatMap enc)) : HoldsK enc k w g 0 d := by
  intro j hj
  rw [size_flatK] at hj
  have hle : d.size * k ≤ cap * k := Nat.mul_le_mul_right _ h.le
  rw [Nat.zero_add]
  exact ⟨h.cell j _ (flatK_at enc k hk hl d j hj), (h.there j (by omega)).2⟩
theorem but_sortK (enc : α → List Value) (k : Nat) (w : World) (g n : Nat) (d : Array α) (os : Array Obj) : But (fun k => k = g) w (sortWorldK enc k w g 0 n d os) := by
  refine ⟨rfl, rfl, rfl, ?_, ?_⟩
  · unfold sortWorldK putRowK
    rw [size_grow, size_putRow]
    exact Nat.le_add_right _ _
  · intro j hj hn
    unfold sortWorldK putRowK
    rw [heap_grow_old _ _ (by rw [size_putRow]; exact hj)]
    unfold putRow mapBlock
    show (w.heap.modify g _)[j]? = _
    rw [Array.getElem?_modify, if_neg (fun e => hn e.symm)]
theorem flat_sort (enc : α → List Value) (k : Nat) (hk : 0 < k) (hl : ∀ x, (enc x).length = k) (h1 : ∀ x, ∀ v ∈ enc x, v.oneCell' = true) {w : World} {g cap m : Nat} {d d' : Array α} (h : Flat k w g cap d.size (d.toList.flatMap enc)) (hs : d'.size = d.size) (os : Array Obj) : Flat k (sortWorldK enc k w g 0 m d' os) g cap d.size (d'.toList.flatMap enc) := by
  have hb := but_sortK enc k w g m d' os
  have hlt : g < (putRow id (Sort.ahead w m) g 0 (flatK enc k d')).heap.size := by rw [size_putRow]; exact h.lt
  have hH00 := flat_holds enc k hk hl h
  have hH0 : Holds id (Sort.ahead w m) g 0 (flatK enc k d) := hH00
  have hH : Holds id (sortWorldK enc k w g 0 m d' os) g 0 (flatK enc k d') :=
    holds_grow id _ os g 0 _ hlt (holds_putRow id (Sort.ahead w m) g 0 _ _ hH0 (by rw [size_flatK, size_flatK, hs]))
  have hln : (d'.toList.flatMap enc).length = d'.size * k := by rw [flatMap_len enc k hl]; simp
  refine ⟨Nat.lt_of_lt_of_le h.lt hb.size, by rw [hln, hs], h.le, h.cmax, fun t u hu => ?_, fun u hu => ?_, fun j hj => ?_⟩
  · have ht : t < d'.size * k := by rw [← hln]; exact (List.getElem?_eq_some_iff.1 hu).1
    rw [flatK_at enc k hk hl d' t ht] at hu
    cases hu
    have := (hH t (by rw [size_flatK]; exact ht)).1
    rw [Nat.zero_add] at this
    exact this
  · obtain ⟨x, _, hx⟩ := List.mem_flatMap.1 hu
    exact h1 x u hx
  · have hp := h.there j hj
    by_cases hj2 : j < (flatK enc k d').size
    · have := hH j hj2
      rw [Nat.zero_add] at this
      exact ⟨by rw [this.1]; rfl, this.2⟩
    · unfold sortWorldK putRowK
      rw [cell?_grow _ _ _ hlt, frozen?_grow _ _ _ hlt, cell?_putRow_other _ _ _ _ _ _ (.inr (.inr (by show 0 + (flatK enc k d').size ≤ j; omega))), frozen?_putRow]
      exact hp
end

theorem inj_of {fs : List FC} (h : fs.Pairwise (fun x y => x.ver ≠ y.ver)) : ∀ x ∈ fs, ∀ y ∈ fs, x.ver = y.ver → x = y := by
  induction fs with
  | nil => intro x hx; cases hx
  | cons z l ih =>
    obtain ⟨h1, h2⟩ := List.pairwise_cons.1 h
    intro x hx y hy e
    rcases List.mem_cons.1 hx with q | q <;> rcases List.mem_cons.1 hy with q' | q'
    · rw [q, q']
    · rw [q] at e; exact absurd e (h1 y q')
    · rw [q'] at e; exact absurd e.symm (h1 x q)
    · exact ih h2 x q y q' e

theorem sortCe_any (g cap : Nat) (fs : List FC) (W : World) (hF : Flat 3 W g cap fs.length (fs.flatMap FC.l)) (hd : fs.Pairwise (fun x y => x.ver ≠ y.ver)) (h0 : 0 < fs.length) (hn : fs.length ≤ 1000) :
    Calls Try.prog 65 #[.slice (some ⟨g, 0, none⟩) fs.length cap, .func (.func 66) #[] #[]] W fun e w' =>
      e = .returned (.tuple #[]) ∧ ∃ fs' : List FC, fs'.map FC.key = (fs.map FC.key).mergeSort byVer ∧ fs'.Perm fs ∧ Flat 3 w' g cap fs.length (fs'.flatMap FC.l) ∧ But (fun j => j = g) W w' := by
  have hinj := inj_of hd
  letI : Inhabited {x // x ∈ fs} := ⟨⟨fs[0], List.getElem_mem h0⟩⟩
  let enc : {x // x ∈ fs} → List Value := fun x => x.1.l
  let cf : {x // x ∈ fs} → {x // x ∈ fs} → Int := fun x y => cmpI x.1.ver y.1.ver
  let d : Array {x // x ∈ fs} := fs.attach.toArray
  have hl : ∀ x, (enc x).length = 3 := fun _ => rfl
  have hds : d.size = fs.length := by simp [d]
  have h1 : ∀ x, ∀ v ∈ enc x, v.oneCell' = true := fun x v hv => by
    simp [enc] at hv
    rcases hv with rfl | rfl | rfl <;> rfl
  have hfl : ∀ l : List {x // x ∈ fs}, l.flatMap enc = (l.map Subtype.val).flatMap FC.l := fun l => by rw [List.flatMap_map]
  have hF' : Flat 3 W g cap d.size (d.toList.flatMap enc) := by
    rw [hds, hfl, show d.toList = fs.attach from rfl, List.attach_map_subtype_val]
    exact hF
  have hlt : ∀ x y, ltOf cf x y = decide (x.1.ver < y.1.ver) := fun x y => cfC_lt _ _
  have hO : SWO (ltOf cf) := by
    refine ⟨fun x => ?_, fun x y z e1 e2 => ?_, fun x y z e1 e2 => ?_⟩
    · rw [hlt]; exact decide_eq_false (by omega)
    · rw [hlt] at *
      have a := of_decide_eq_true e1
      have b := of_decide_eq_true e2
      exact decide_eq_true (by omega)
    · rw [hlt] at *
      have a := of_decide_eq_false e1
      have b := of_decide_eq_false e2
      exact decide_eq_false (by omega)
  have hT : ∀ x y, (ltOf cf) x y = false → (ltOf cf) y x = false → x = y := fun x y e1 e2 => by
    rw [hlt] at *
    have a := of_decide_eq_false e1
    have b := of_decide_eq_false e2
    exact Subtype.ext (hinj x.1 x.2 y.1 y.2 (by omega))
  have eg : ∀ args w, (callFunc 66 args).run Try.prog w = .ok (.enter 66 args) w := enters_of Try.func66 (by kernel_rfl) rfl
  have hcl : CmpLays Try.prog 66 #[] enc 3 cf g 0 d.size W := fun _ _ _ _ x y => closureC_any x.1 y.1 _
  have := AnyQ.slices_SortFunc_total Try.sortCe 3 Try.isAgg114 Try.sizeOf114 enc hl h1 cf hO 66 #[] g 0 cap d W eg hcl (flat_holds enc 3 (by decide) hl hF') hF.lt (by rw [hds]; omega) hT
  rw [hds] at this
  refine Calls.mono this ?_
  rintro e w' ⟨rfl, m, os, rfl⟩
  refine ⟨rfl, (d.toList.mergeSort fun x y => !(ltOf cf) y x).map Subtype.val, ?_, ?_, ?_, ?_⟩
  · rw [List.map_map, List.map_mergeSort (s := byVer) (fun x _ y _ => ?_)]
    · rw [show d.toList = fs.attach from rfl, ← List.map_map, List.attach_map_subtype_val]
    · show (!(ltOf cf) y x) = byVer _ _
      rw [hlt]; rfl
  · have := (List.mergeSort_perm d.toList (fun x y => !(ltOf cf) y x)).map Subtype.val
    rw [show d.toList = fs.attach from rfl, List.attach_map_subtype_val] at this
    exact this
  · have := flat_sort enc 3 (by decide) hl h1 (m := m) (d' := (d.toList.mergeSort fun x y => !(ltOf cf) y x).toArray) hF' (by simp [List.length_mergeSort]) os
    rw [hfl, hds] at this
    rw [hds] at *
    exact this
  · have := but_sortK enc 3 W g m (d.toList.mergeSort fun x y => !(ltOf cf) y x).toArray os
    exact this
/-- Of any number. -/
theorem sortC_any (w0 W : World) (a : Option Addr) (cap : Nat) (fs : List FC) (hF : FCs w0 W a cap fs) (hd : fs.Pairwise (fun x y => x.ver ≠ y.ver)) (hn : fs.length ≤ 1000) :
    Calls Try.prog 65 #[.slice a fs.length cap, .func (.func 66) #[] #[]] W fun e w' =>
      e = .returned (.tuple #[]) ∧ ∃ fs' : List FC, fs'.map FC.key = (fs.map FC.key).mergeSort byVer ∧ fs'.length = fs.length ∧ FCs w0 w' a cap fs' ∧ But (inB a) W w' := by
  by_cases h0 : 0 < fs.length
  · rcases hF.sl with ⟨_, _, hz, _⟩ | ⟨g, rfl, hf⟩
    · omega
    · refine (sortCe_any g cap fs W hf hd h0 hn).mono ?_
      rintro e w' ⟨rfl, fs', h1, h2, h3, h4⟩
      have h4' : But (inB (some ⟨g, 0, none⟩)) W w' := h4.mono (fun j _ e => ⟨_, rfl, e.symm⟩)
      refine ⟨rfl, fs', h1, h2.length_eq, ⟨.inr ⟨g, rfl, by rw [h2.length_eq]; exact h3⟩, fun x hx => ?_, hF.up⟩, h4'⟩
      obtain ⟨q1, q2⟩ := hF.its x (h2.mem_iff.1 hx)
      exact ⟨q1.but h4' q2, q2⟩
  · have hz : fs = [] := List.eq_nil_of_length_eq_zero (by omega)
    subst hz
    refine (AnyF.slices_SortFunc_none Try.sortCe a cap _ W).mono ?_
    rintro e w' ⟨rfl, rfl⟩
    exact ⟨rfl, [], by simp, rfl, hF, But.refl _ _⟩
end Go.Proofs.Ytbcmilfajeanbaa

namespace Go.Proofs.Ytbcmilfajeanbaa
open Go.RowKit Go.Sort

theorem len5_any (b : Nat) (O : Nat → Prop) (M : Mem) (w : World) (h : MemAt w b O M) : Calls Try.prog 64 #[.pointer (some ⟨b, 0, none⟩)] w fun e w' => e = .returned (.int .i64 (M.len : Int)) ∧ w' = w := by
  obtain ⟨a, cap, A, C, hr⟩ := h.row
  have hd := hr.hd
  clear hr h
  go_enter Try.func64, Try.ntmps64
  go_wp2
  go_ret
  exact ⟨rfl, rfl⟩
end Go.Proofs.Ytbcmilfajeanbaa

namespace Go.Proofs.Ytbcmilfajeanbaa
open Go.RowKit Go.Sort Go.Lib

theorem fs_src {w : World} {a : Option Addr} {cap n : Nat} {L : List It} (h : SlAt 2 w a cap n (flatI L)) : Src Try.prog 2 26 (.slice a n cap) n (flatI L) w := h.src Try.underlying26

set_option maxRecDepth 20000 in
set_option maxHeartbeats 4000000 in
theorem inSlots_any (b : Nat) (O : Nat → Prop) (M : Mem) (w : World) (h : MemAt w b O M) (hM : KM M ∧ (fullK M (max M.len 2)).Pairwise (fun p q => p.1 ≠ q.1)) :
    Calls Try.prog 32 #[.pointer (some ⟨b, 0, none⟩)] w fun e w' => ∃ a cap, e = .returned (.slice a (slK M).length cap) ∧ SlAt 2 w' a cap (slK M).length (flatI (kit (slK M))) ∧ (∀ j, inB a j → w.heap.size ≤ j) ∧ Below w.heap.size w w' := by
  have HM := hidq (And.intro h (And.intro hM h.max))
  have hLn := hidq (fun W (hW : Below w.heap.size w W) => len5_any b O M W (h.below hW))
  have hfd := cell_value
  have hfn := value_n
  clear h hM
  go_enter Try.func32, Try.ntmps32
  go_wp2
  go_loopw [3, 4] (fun l i wr => ∃ (k : Nat) (a : Option Addr) (cap : Nat) (fs : List FC), l = .slice a fs.length cap ∧ i = .int .i64 (k : Int) ∧ 2 ≤ k ∧ k ≤ max M.len 2 ∧ FCs w wr a cap fs ∧ fs.map FC.key = fullK M k ∧ Below w.heap.size w wr) (fun _ i _ => max M.len 2 - (intOf i).toNat)
  case atStart => exact ⟨2, none, 0, [], rfl, rfl, Nat.le_refl _, by omega, ⟨SlAt.nil _ _, fun x hx => (by cases hx), fun j hj => by obtain ⟨x, hx, _⟩ := hj; cases hx⟩, rfl, Below.refl _ _⟩
  case round =>
    obtain ⟨k, a, cap, fs, rfl, rfl, hk2, hk, hF, hK, hB⟩ := hrel
    have hfl : fs.length ≤ k := by have := fullK_len M k; rw [← hK, List.length_map] at this; exact this
    have hL := hLn.out wr hB
    have hmx := HM.out.2.2
    by_cases hlt : k < M.len
    · have hR := hidq (read5_any b O M (k : Int) wr (HM.out.1.below hB))
      rw [look_nat] at hR
      have hd : (k : Int) < (M.len : Int) := by omega
      by_cases hone : (M.cell k).n = 1
      · obtain ⟨x, hx⟩ := HM.out.2.1.1.2 k hk2 hone
        have hT : fullK M (k + 1) = fullK M k ++ [((M.cell k).ver, [x])] := by
          show fullK M k ++ _ = _
          rw [if_pos ⟨hk2, hone⟩, hx, kis_kit]
        have HT := hidq (And.intro hT hK)
        have HB := hidq hB
        have HF := hidq hF
        rw [hone, hx] at hR
        simp only [kit_length, List.length_singleton] at hR
        clear hT hK hB hF hx hone
        generalize hn1 : fs.length = n1 at *
        generalize (M.cell k).ver = vr at *
        go_wp2_with fail
        refine hL.mono ?_
        rintro e w0 ⟨rfl, hw⟩
        replace hw := hw.symm
        subst hw
        clear hL
        go_wp2_with fail
        refine hR.out.mono ?_
        rintro e w1 ⟨a', cap', rfl, hS2, hA2, hb1⟩
        have HE := hidq (show Below wr.heap.size wr w1 ∧ SlAt 2 w1 a' cap' 1 (flatI (kit [x])) ∧ ∀ j, inB a' j → wr.heap.size ≤ j from ⟨hb1, hS2, hA2⟩)
        clear hS2 hA2 hb1 hR
        have HU := hidq (show Below w1.heap.size w1 ((w1.alloc (.cells #[.int .u64 vr, .int .i64 1, .slice a' 1 cap'] 114)).alloc (.cells #[.int .u64 vr, .int .i64 1, .slice a' 1 cap'] 114)) from ((Below.refl _ _).alloc (Nat.le_refl _) _).alloc (by simp) _)
        go_wp2_with (at_builtin; refine wpList_sla plainCe _ rfl (.tmp 22) (.tmp 24) rfl a cap n1 (fs.flatMap FC.l) rfl (by rw [← hn1]; exact (HF.out.sl.below HE.out.1).below HU.out) _ rfl 1 [.int .u64 vr, .int .i64 1, .slice a' 1 cap'] (src_new 3 _ Try.underlying86 (w1.heap.size + 1) [.int .u64 vr, .int .i64 1, .slice a' 1 cap'] rfl (fun j u hu => by have := World.cell?_alloc_new (w1.alloc (.cells #[.int .u64 vr, .int .i64 1, .slice a' 1 cap'] 114)) #[.int .u64 vr, .int .i64 1, .slice a' 1 cap'] 114 j; rw [World.size_alloc] at this; rw [this]; simpa using hu) (by intro u hu; simp at hu; rcases hu with rfl | rfl | rfl <;> rfl)) (by omega) ?_; intro a3 c3 w3 h3 h3b h3i)
        go_roundw
        case rel =>
          have hF2 := (HF.out.below HE.out.1).below HU.out
          have q0 := HB.out.size
          have q1 := HE.out.1.size
          have q2 := HU.out.size
          refine ⟨k + 1, a3, c3, fs ++ [⟨vr, [x], a', cap'⟩], by rw [List.length_append, hn1]; rfl, by go_num, by omega, by omega, ?_, ?_, ?_⟩
          · refine hF2.push (by omega) (HE.out.2.1.below HU.out) (fun j hj e => ?_) (by rw [hn1]; exact h3) h3b h3i
            have e1 := HE.out.2.2 j hj
            have e2 := HF.out.sl.lt j e
            omega
          · rw [List.map_append, HT.out.2, HT.out.1]; rfl
          · exact ((HB.out.trans (HE.out.1.mono q0)).trans (HU.out.mono (by omega))).trans (h3b.below (by omega) (fun j hj => HF.out.up j hj))
        case measure => simp [intOf]; omega
      · have hT : fullK M (k + 1) = fullK M k := by
          show fullK M k ++ _ = _
          rw [if_neg (fun e => hone e.2), List.append_nil]
        have hb1 : ((M.cell k).n == 1) = false := by simpa using hone
        have HT := hidq (And.intro hT hK)
        have HB := hidq hB
        have HF := hidq hF
        clear hT hK hB hF hone
        generalize hn1 : fs.length = n1 at *
        generalize (M.cell k).ver = vr at *
        generalize (M.cell k).n = nn at *
        generalize (M.cell k).L = ll at *
        go_wp2_with fail
        refine hL.mono ?_
        rintro e w0 ⟨rfl, hw⟩
        replace hw := hw.symm
        subst hw
        clear hL
        go_wp2_with fail
        refine hR.out.mono ?_
        rintro e w1 ⟨a', cap', rfl, hS2, hA2, hbb⟩
        have HE := hidq hbb
        clear hS2 hA2 hbb hR
        go_wp2
        go_roundw
        case rel =>
          have q0 := HB.out.size
          have hba := ((Below.refl _ w1).alloc (Nat.le_refl _) (.cells #[.int .u64 vr, .int .i64 nn, .slice a' ll.length cap'] 114))
          refine ⟨k + 1, a, cap, fs, by rw [hn1], by go_num, by omega, by omega, (HF.out.below HE.out).below hba, by rw [HT.out.2, HT.out.1], (HB.out.trans (HE.out.mono q0)).trans (hba.mono (by have := HE.out.size; omega))⟩
        case measure => simp [intOf]; omega
    · have hkM : k = max M.len 2 := by omega
      have hd : decide ((k : Int) < (M.len : Int)) = false := decide_eq_false (by omega)
      have hpw : fs.Pairwise (fun x y => x.ver ≠ y.ver) := by
        have := HM.out.2.1.2
        rw [← hkM, ← hK, List.pairwise_map] at this
        exact this
      have hSo := sortC_any w wr a cap fs hF hpw (by omega)
      have hKK : (fullK M k).mergeSort byVer = (fs.map FC.key).mergeSort byVer := by rw [hK]
      have hone : ∀ p ∈ fullK M k, p.2.length = 1 := fun p hp => by
        obtain ⟨i, _, h2, h3, rfl⟩ := fullK_mem hp
        obtain ⟨x, hx⟩ := HM.out.2.1.1.2 i h2 h3
        show (kis (M.cell i).L).length = 1
        rw [hx, kis_kit]; rfl
      have hsl : slK M = ((fs.map FC.key).mergeSort byVer).flatMap (fun p => p.2) := by unfold slK; rw [← hkM, hKK]
      have HX := hidq (show (∀ x ∈ fs.map FC.key, x.2.length = 1) ∧ slK M = ((fs.map FC.key).mergeSort byVer).flatMap (fun p => p.2) from ⟨by rw [hK]; exact hone, hsl⟩)
      have HB := hidq (And.intro hB hF.up)
      clear hpw hKK hone hsl hB hF hK hkM
      generalize hn1 : fs.length = n1 at *
      go_wp2_with fail
      refine hL.mono ?_
      rintro e w0 ⟨rfl, hw⟩
      replace hw := hw.symm
      subst hw
      clear hL
      go_wp2_with fail
      refine hSo.mono ?_
      rintro e w2 ⟨rfl, fs', hk', hl', hF', hbt⟩
      have hone' : ∀ x ∈ fs', x.K.length = 1 := fun x hx => by
        have : x.key ∈ (fs.map FC.key).mergeSort byVer := by rw [← hk']; exact List.mem_map_of_mem hx
        exact HX.out.1 _ (List.mem_mergeSort.1 this)
      have HF := hidq (show FCs w w2 a cap fs' ∧ Below w.heap.size w w2 ∧ fs'.length = n1 ∧ (∀ x ∈ fs', x.K.length = 1) ∧ slK M = fs'.flatMap (fun x => x.K) from
        ⟨hF', HB.out.1.trans (hbt.below HB.out.1.size HB.out.2), hl', hone', by rw [HX.out.2, ← hk', List.flatMap_map]; rfl⟩)
      clear hk' hl' hF' hbt hone' hSo HX HB
      go_wp2
      go_loopw [6, 30] (fun l i wr => ∃ (j : Nat) (a2 : Option Addr) (cap2 : Nat), l = .slice a2 ((fs'.take j).flatMap (fun x => x.K)).length cap2 ∧ i = .int .i64 (j : Int) ∧ j ≤ n1 ∧ SlAt 2 wr a2 cap2 ((fs'.take j).flatMap (fun x => x.K)).length (flatI (kit ((fs'.take j).flatMap (fun x => x.K)))) ∧ (∀ q, inB a2 q → w2.heap.size ≤ q) ∧ ((fs'.take j).flatMap (fun x => x.K)).length ≤ j ∧ Below w2.heap.size w2 wr) (fun _ i _ => n1 - (intOf i).toNat)
      case atStart => exact ⟨0, none, 0, rfl, rfl, Nat.zero_le _, SlAt.nil _ _, fun q hq => (by obtain ⟨x, hx, _⟩ := hq; cases hx), Nat.le_refl _, Below.refl _ _⟩
      case round =>
        obtain ⟨j, a2, cap2, rfl, rfl, hj, hS, hA, hlj, hB⟩ := hrel
        obtain ⟨hF', hb2, hl', hone', hslK⟩ := HF.out
        by_cases hlt2 : j < n1
        · have hjl : j < fs'.length := by omega
          obtain ⟨x, hx⟩ : ∃ x, fs'[j] = x := ⟨_, rfl⟩
          have hxm : x ∈ fs' := by rw [← hx]; exact List.getElem_mem hjl
          have hx1 := hone' x hxm
          obtain ⟨hi1, hi2⟩ := hF'.its x hxm
          have hS3 := hF'.sl
          have hg : ∀ q, q < 3 → (fs'.flatMap FC.l)[j * 3 + q]? = x.l[q]? := fun q hq => by rw [flatMap_get FC.l 3 FC.len fs' j q hjl hq, hx]
          obtain ⟨g, rfl, hgl, c0⟩ := hS3.cell (hg 0 (by omega))
          obtain ⟨g', e', _, c1⟩ := hS3.cell (hg 1 (by omega))
          cases e'
          obtain ⟨g', e', _, c2⟩ := hS3.cell (hg 2 (by omega))
          cases e'
          have c0' := (hB.cell (p := ⟨g, j * 3, none⟩) hgl).trans c0
          have c1' := (hB.cell (p := ⟨g, j * 3 + 1, none⟩) hgl).trans c1
          have c2' := (hB.cell (p := ⟨g, j * 3 + 2, none⟩) hgl).trans c2
          have hcap := hS3.le
          rw [hl'] at hcap
          have hgw : g < wr.heap.size := Nat.lt_of_lt_of_le hgl hB.size
          have htk : fs'.take (j + 1) = fs'.take j ++ [x] := by rw [List.take_succ_eq_append_getElem hjl, hx]
          have htl : ((fs'.take (j + 1)).flatMap (fun x => x.K)) = ((fs'.take j).flatMap (fun x => x.K)) ++ x.K := by rw [htk, List.flatMap_append]; simp
          have HI := hidq (show SlAt 2 w2 x.a x.cap x.K.length (flatI (kit x.K)) ∧ ((fs'.take (j + 1)).flatMap (fun x => x.K)) = ((fs'.take j).flatMap (fun x => x.K)) ++ x.K ∧ x.K.length = 1 ∧ (∀ q, inB x.a q → q < w2.heap.size) from ⟨hi1, htl, hx1, hi1.lt⟩)
          have HS := hidq (And.intro hS (And.intro hA hB))
          have k1 : (j : Int) < (n1 : Int) := by omega
          rw [hx1] at c2'
          clear hF' hb2 hl' hone' hslK hi1 hi2 hS3 hg c0 c1 c2 htk htl hS hA hB hx1 hxm hx hjl hgl
          obtain ⟨kl, hkl⟩ : ∃ kl, (fs'.take j).flatMap (fun x => x.K) = kl := ⟨_, rfl⟩
          rw [hkl] at hlj ⊢
          rw [hkl] at HI HS
          generalize hn2 : kl.length = n2 at *
          have HU := hidq (show Below wr.heap.size wr (wr.alloc (.cells #[.int .u64 x.ver, .int .i64 1, .slice x.a 1 x.cap] 114)) from (Below.refl _ _).alloc (Nat.le_refl _) _)
          go_wp2_with (at_builtin; refine wpList_sla plainI _ rfl (.tmp 34) (.tmp 37) rfl a2 cap2 n2 (flatI (kit kl)) rfl (HS.out.1.below HU.out) _ rfl 1 (flatI (kit x.K)) (fs_src (by have := HI.out.1; rw [HI.out.2.2.1] at this; exact (this.below HS.out.2.2).below HU.out)) (by omega) ?_; intro a3 c3 w3 h3 h3b h3i)
          go_roundw
          case rel =>
            have q0 := HS.out.2.2.size
            have q1 := HU.out.size
            refine ⟨j + 1, a3, c3, by rw [HI.out.2.1, List.length_append, HI.out.2.2.1, hn2], by go_num, by omega, ?_, fun q hq => ?_, by rw [HI.out.2.1, List.length_append, HI.out.2.2.1]; omega, ?_⟩
            · rw [HI.out.2.1, List.length_append, HI.out.2.2.1, hn2]
              have : flatI (kit (kl ++ x.K)) = flatI (kit kl) ++ flatI (kit x.K) := by rw [← flatI_append]; simp [kit]
              rw [this]
              exact h3
            · rcases h3i q hq with e | e
              · exact HS.out.2.1 q e
              · omega
            · exact (HS.out.2.2.trans (HU.out.mono q0)).trans (h3b.below (by omega) HS.out.2.1)
          case measure => simp [intOf]; omega
        · have hjn : j = n1 := by omega
          have hd2 : decide ((j : Int) < (n1 : Int)) = false := decide_eq_false (by omega)
          have htk : fs'.take j = fs' := List.take_of_length_le (by omega)
          rw [htk] at hS hlj ⊢
          rw [← hslK] at hS hlj ⊢
          have HE := hidq (And.intro hS (And.intro hA (And.intro hB hb2)))
          clear hS hA hB hb2 hF' hl' hone' hslK htk
          go_wp2
          go_ret
          obtain ⟨hS, hA, hB, hb2⟩ := HE.out
          exact ⟨a2, cap2, rfl, hS, fun q hq => (by have := hA q hq; have := hb2.size; omega), hb2.trans (hB.mono hb2.size)⟩
end Go.Proofs.Ytbcmilfajeanbaa
