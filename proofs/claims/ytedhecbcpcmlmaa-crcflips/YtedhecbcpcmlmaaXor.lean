/-
  CrcXor, walked.
-/
import Derived.Test.YtedhecbcpcmlmaaPuts
import Derived.Test.YtedhecbcpcmlmaaCrcLin
import Derived.RegionTactic
namespace Go.Proofs.Ytedhecbcpcmlmaa
open Go.RowKit

theorem run_min4 (ts : Array TypeId) (t : TypeId) (x y z : Nat) (w : World) : (Builtin.min_ ts t #[.int .i64 (x : Int), .int .i64 (y : Int), .int .i64 (z : Int), .int .i64 60]).run Try.prog w = .ok (.int .i64 ((min (min (min x y) z) 60 : Nat) : Int)) w := by
  have e : (Builtin.min_ ts t #[.int .i64 (x : Int), .int .i64 (y : Int), .int .i64 (z : Int), .int .i64 60]).run Try.prog w = .ok (.int .i64 (if 60 < (if (z : Int) < (if (y : Int) < x then (y : Int) else x) then (z : Int) else (if (y : Int) < x then (y : Int) else x)) then 60 else (if (z : Int) < (if (y : Int) < x then (y : Int) else x) then (z : Int) else (if (y : Int) < x then (y : Int) else x)))) w := by
    simp [Builtin.min_, Builtin.min2]
  rw [e]
  congr 2
  repeat' split
  all_goals omega

theorem make8 (n : Nat) (h : n ≤ 60) (w : World) : (Instr.makeSlice 36 (.int .i64 (n : Int)) (.int .i64 (n : Int))).run Try.prog w = .ok (.slice (some ⟨w.heap.size, 0, none⟩) n n) (w.alloc (.cells (Array.replicate n (.int .u8 0)) 5)) := by
  have e1 : ((Try.prog.info? 5).getD default).bytes = 1 := by kernel_rfl
  have e2 : ((Try.prog.info? 5).getD default).size = 1 := by kernel_rfl
  have hr := run_make (P := Try.prog) w 36 5 ((Try.prog.info? 5).getD default) (.int .u8 0) Try.underlying36 (by kernel_rfl) (by kernel_rfl) .i64 .i64 n n (by omega) (by omega) (by rw [e1]; omega) (by omega)
  rw [hr, e2]
  simp only [Int.toNat_natCast, Nat.mul_one]
  congr 3
  apply Array.ext
  · simp [madeCells]
  · intro i h1 h2
    simp [madeCells, Value.cells, Nat.mod_one]

theorem xor_bytes (x y : UInt8) : bits BinOp.xor IntKind.u8 (x.toNat : Int) (y.toNat : Int) = ((x ^^^ y).toNat : Int) := by
  rw [u8_xor_nat x.toNat y.toNat x.toNat_lt y.toNat_lt, UInt8.toNat_xor]

theorem str_cells (w : World) (g n : Nat) (l : List UInt8) (hl : l.length = n) (h : ∀ j, j < n → w.cell? ⟨g, j, none⟩ = some (.int .u8 ((l.getD j 0).toNat : Int))) : (convert 36 9 (.slice (some ⟨g, 0, none⟩) n n)).run Try.prog w = .ok (.string ⟨l.toArray⟩) w := by
  subst hl
  refine run_convert_bytes_back w 36 9 5 ⟨g, 0, none⟩ _ l Try.underlying36 Try.underlying5 Try.underlying9 (fun j hj => ?_)
  rw [Addr.add_lit]
  have := h j hj
  rw [List.getD_eq_getElem?_getD, List.getElem?_eq_getElem hj] at this
  simpa using this

/-- The first n bytes of three texts laid over each other. -/
def lay3 (a b c : ByteArray) (n : Nat) : List UInt8 := Crc.over (Crc.over (a.data.toList.take n) (b.data.toList.take n)) (c.data.toList.take n)
theorem lay3_length {a b c : ByteArray} {n : Nat} (ha : n ≤ a.size) (hb : n ≤ b.size) (hc : n ≤ c.size) : (lay3 a b c n).length = n := by
  simp [lay3, Crc.over]; omega
theorem lay3_at {a b c : ByteArray} {n : Nat} (ha : n ≤ a.size) (hb : n ≤ b.size) (hc : n ≤ c.size) (k : Nat) (hk : k < n) : (lay3 a b c n).getD k 0 = (a[k] ^^^ b[k]) ^^^ c[k] := by
  rw [List.getD_eq_getElem?_getD, List.getElem?_eq_getElem (by rw [lay3_length ha hb hc]; exact hk)]
  simp [lay3, Crc.over]
  rfl

def xorR (a b c : ByteArray) (x : List UInt8) (n g tb za zb zc zx : Nat) : List (Value → World → Prop) :=
  [fun v _ => v = .pointer (some ⟨tb, 0, none⟩),
   fun v _ => v = .slice (some ⟨g, 0, none⟩) n n,
   fun v _ => v = .string (⟨x.toArray⟩ : ByteArray),
   Reg.OwnSl [.string (⟨x.toArray⟩ : ByteArray)],
   fun v _ => v = .int .u32 (zx : Int),
   fun v _ => v = .pointer (some ⟨tb, 0, none⟩),
   fun v _ => v = .string a,
   fun v _ => v = .int .i64 (n : Int),
   fun v _ => v = .string (a.extract 0 n),
   Reg.OwnSl [.string (a.extract 0 n)],
   fun v _ => v = .int .u32 (za : Int),
   fun v _ => v = .pointer (some ⟨tb, 0, none⟩),
   fun v _ => v = .string b,
   fun v _ => v = .int .i64 (n : Int),
   fun v _ => v = .string (b.extract 0 n),
   Reg.OwnSl [.string (b.extract 0 n)],
   fun v _ => v = .int .u32 (zb : Int),
   fun v _ => v = .int .u32 ((za ^^^ zb : Nat) : Int),
   fun v _ => v = .pointer (some ⟨tb, 0, none⟩),
   fun v _ => v = .string c,
   fun v _ => v = .int .i64 (n : Int),
   fun v _ => v = .string (c.extract 0 n),
   Reg.OwnSl [.string (c.extract 0 n)],
   fun v _ => v = .int .u32 (zc : Int),
   fun v _ => v = .int .u32 (zx : Int),
   fun v _ => v = .bool true,
   fun v _ => v = .bool true]
theorem xorR_kept (a b c : ByteArray) (x : List UInt8) (n g tb za zb zc zx : Nat) : Reg.AllKept Reg.Keeps (xorR a b c x n g tb za zb zc zx) :=
  ⟨(fun _ _ _ _ h => h), (fun _ _ _ _ h => h), (fun _ _ _ _ h => h), (fun _ _ _ => Reg.OwnSl.keeps), (fun _ _ _ _ h => h), (fun _ _ _ _ h => h), (fun _ _ _ _ h => h), (fun _ _ _ _ h => h), (fun _ _ _ _ h => h), (fun _ _ _ => Reg.OwnSl.keeps), (fun _ _ _ _ h => h), (fun _ _ _ _ h => h), (fun _ _ _ _ h => h), (fun _ _ _ _ h => h), (fun _ _ _ _ h => h), (fun _ _ _ => Reg.OwnSl.keeps), (fun _ _ _ _ h => h), (fun _ _ _ _ h => h), (fun _ _ _ _ h => h), (fun _ _ _ _ h => h), (fun _ _ _ _ h => h), (fun _ _ _ _ h => h), (fun _ _ _ => Reg.OwnSl.keeps), (fun _ _ _ _ h => h), (fun _ _ _ _ h => h), (fun _ _ _ _ h => h), (fun _ _ _ _ h => h), trivial⟩

set_option maxRecDepth 10000 in
set_option maxHeartbeats 1600000 in
theorem crcXor_any (a b c : ByteArray) (w : World) (ha : a.size ≤ maxLen) (hb : b.size ≤ maxLen) (hc : c.size ≤ maxLen) :
    Calls Try.prog 13 #[.string a, .string b, .string c] w fun e w' => e = .returned (.bool true) ∧ Below w.heap.size w w' := by
  unfold maxLen at ha hb hc
  have hmin := fun ts t w => run_min4 ts t a.size b.size c.size w
  have hna : min (min (min a.size b.size) c.size) 60 ≤ a.size := by omega
  have hnb : min (min (min a.size b.size) c.size) 60 ≤ b.size := by omega
  have hnc : min (min (min a.size b.size) c.size) 60 ≤ c.size := by omega
  have hn60 : min (min (min a.size b.size) c.size) 60 ≤ 60 := by omega
  generalize min (min (min a.size b.size) c.size) 60 = n at *
  have hmk := make8 n hn60
  obtain ⟨x, hxl, hxa, hxe⟩ : ∃ x : List UInt8, x.length = n ∧ (∀ k (_ : k < n), x.getD k 0 = (a[k] ^^^ b[k]) ^^^ c[k]) ∧ Crc.more 0 x = (Crc.more 0 (a.extract 0 n).data.toList ^^^ Crc.more 0 (b.extract 0 n).data.toList) ^^^ Crc.more 0 (c.extract 0 n).data.toList := by
    refine ⟨lay3 a b c n, lay3_length hna hnb hnc, lay3_at hna hnb hnc, ?_⟩
    rw [extract_list, extract_list, extract_list]
    simp only [List.drop_zero, Nat.sub_zero]
    exact Crc.more_over3 _ _ _ (by simp; omega) (by simp; omega)
  have Hxa := hid hxa
  have Hxe := hid hxe
  clear hxa hxe
  go_enter Try.func13, Try.ntmps13
  go_wp2_with fail
  refine (awake2_any _).mono ?_
  rintro e w1 ⟨rfl, hk1⟩
  go_wp2_with fail
  clear hmin hmk
  generalize hw2 : w1.alloc (Obj.cells (Array.replicate n (Value.int IntKind.u8 0)) 5) = w2 at *
  have hs2 : w2.heap.size = w1.heap.size + 1 := by rw [← hw2]; simp
  have hf2 : ∀ j, w2.frozen? ⟨w1.heap.size, j, none⟩ = false := by rw [← hw2]; intro j; simp
  have hc2 : ∀ j, j < n → w2.cell? ⟨w1.heap.size, j, none⟩ = some (.int .u8 0) := by rw [← hw2]; intro j hj; simp [hj]
  have hk2 : Below w.heap.size w w2 := by rw [← hw2]; exact hk1.alloc hk1.size _
  clear hw2
  generalize hg : w1.heap.size = g at *
  have hgw : w.heap.size ≤ g := by rw [← hg]; exact hk1.size
  clear hg hk1
  go_loopw [24] (fun i wr => ∃ k : Nat, k ≤ n ∧ i = .int .i64 (k : Int) ∧ Below w.heap.size w wr ∧ wr.heap.size = g + 1 ∧ (∀ j, wr.frozen? ⟨g, j, none⟩ = false) ∧ (∀ j, j < k → wr.cell? ⟨g, j, none⟩ = some (.int .u8 ((x.getD j 0).toNat : Int))) ∧ (∀ j, k ≤ j → j < n → wr.cell? ⟨g, j, none⟩ = some (.int .u8 0))) (fun i _ => n - (intOf i).toNat)
  case atStart => exact ⟨0, by omega, rfl, hk2, hs2, hf2, fun j h => absurd h (Nat.not_lt_zero _), fun j _ h => hc2 j h⟩
  case round =>
    obtain ⟨k, hk, rfl, hbl, hsz, hfz, hlo, hhi⟩ := hrel
    have Hf := hid hfz
    have Hl := hid hlo
    have Hh := hid hhi
    have Hs := hid hsz
    have Hb := hid hbl
    clear hfz hlo hhi hsz hbl hf2 hc2 hk2 hs2
    by_cases hlt : k < n
    · have hcl := Hh.out k (Nat.le_refl _) hlt
      have hfr := Hf.out k
      have hx1 := xor_bytes a[k] b[k]
      have hx2 := xor_bytes (a[k] ^^^ b[k]) c[k]
      have i1 : (k : Int) < (a.size : Int) := by omega
      have i2 : (k : Int) < (b.size : Int) := by omega
      have i3 : (k : Int) < (c.size : Int) := by omega
      have i4 : (k : Int) < (n : Int) := by omega
      rw [← Hxa.out k hlt, UInt8.toNat_xor] at hx2
      have H2 := hid hx2
      clear hx2
      go_wp2
      go_region
      go_wp2
      go_roundw
      case rel =>
        rw [H2.out]
        refine ⟨k + 1, by omega, by go_num, (Hb.out.setCell hgw _).drew, by rw [World.size_drew, World.size_setCell]; exact Hs.out, fun j => by rw [World.frozen?_drew, World.frozen?_setCell]; exact Hf.out j, ?_, ?_⟩
        · intro j hj
          rw [World.cell?_drew]
          by_cases e : j = k
          · subst e; exact World.cell?_setCell_same _ _ _ hcl
          · rw [World.cell?_setCell_other _ _ _ _ (by intro h; injection h with _ h2 _; exact e h2.symm)]; exact Hl.out j (by omega)
        · intro j hj hj2
          rw [World.cell?_drew, World.cell?_setCell_other _ _ _ _ (by intro h; injection h with _ h2 _; omega)]; exact Hh.out j (by omega) hj2
      case measure => simp [intOf]; omega
    · have hk2 : n = k := by omega
      subst hk2
      go_wp2_with fail
      refine (make_any _).mono ?_
      rintro e w3 ⟨tb, rfl, hb3, htb, hb5, ht⟩
      have Ht : Hid (TabAt w3 tb) := ht
      clear ht
      have Hx : Hid (∀ j (hj : j < n), w3.cell? ⟨g, j, none⟩ = some (.int .u8 ((x.getD j 0).toNat : Int))) := by
        intro j hj
        rw [hb5.cell (p := ⟨g, j, none⟩) (show g < _ by rw [Hs.out]; omega)]
        exact Hl.out j hj
      have hg : g < w3.heap.size := Nat.lt_of_lt_of_le (by rw [Hs.out]; omega) hb5.size
      have HB : Hid (Below w.heap.size w w3) := Hb.out.trans (hb5.mono Hb.out.size)
      have HBs : Hid (w.heap.size ≤ w3.heap.size) := HB.out.size
      have lx : (⟨x.toArray⟩ : ByteArray).size ≤ maxLen := by
        show x.toArray.size ≤ maxLen
        unfold maxLen; simp [hxl]; omega
      have la : (a.extract 0 n).size ≤ maxLen := by unfold maxLen; simp; omega
      have lb : (b.extract 0 n).size ≤ maxLen := by unfold maxLen; simp; omega
      have lc : (c.extract 0 n).size ≤ maxLen := by unfold maxLen; simp; omega
      obtain ⟨zx, Hzx⟩ : ∃ z, Hid (Crc.more 0 (⟨x.toArray⟩ : ByteArray).data.toList = z) := ⟨_, rfl⟩
      obtain ⟨za, Hza, hza⟩ : ∃ z, Hid (Crc.more 0 (a.extract 0 n).data.toList = z) ∧ z < 4294967296 := ⟨_, rfl, Crc.more_lt _ _⟩
      obtain ⟨zb, Hzb, hzb⟩ : ∃ z, Hid (Crc.more 0 (b.extract 0 n).data.toList = z) ∧ z < 4294967296 := ⟨_, rfl, Crc.more_lt _ _⟩
      obtain ⟨zc, Hzc, hzc⟩ : ∃ z, Hid (Crc.more 0 (c.extract 0 n).data.toList = z) ∧ z < 4294967296 := ⟨_, rfl, Crc.more_lt _ _⟩
      have hzab : za ^^^ zb < 4294967296 := Nat.xor_lt_two_pow (n := 32) hza hzb
      have Hz : Hid ((za ^^^ zb) ^^^ zc = zx) := by
        show _ = _
        rw [← Hzx.out, ← Hza.out, ← Hzb.out, ← Hzc.out, ← Hxe.out]
      go_wp2_with fail
      have hrefl : ∀ w : World, Reg.Keeps w w := Reg.Keeps.refl
      refine Reg.wp_region_props (Reg.ofList (xorR a b c x n g tb za zb zc zx)) Reg.Keeps (fun _ w => Reg.Keeps w3 w) (by kernel_rfl) (by kernel_rfl) (Reg.AllKept.at _ (xorR_kept a b c x n g tb za zb zc zx)) hrefl ((Reg.Keeps.refl _).drewN 1) ⟨?_, ?_, ?_, ?_, ?_, ?_, ?_, ?_, ?_, ?_, ?_, ?_, ?_, ?_, ?_, ?_, ?_, ?_, ?_, ?_, ?_, ?_, ?_, ?_, ?_, ?_, ?_, trivial⟩ ?_
      · refine Reg.StepAt.plain (i := 0) rfl ?_
        intro L ev w hI hk hp hA
        have e10 : ev (.tmp 10) = .pointer (some ⟨tb, 0, none⟩) := hA.oldNone 10 (by kernel_rfl)
        have hcc := hA.const
        clear hA hp
        refine Reg.out_value (v := .pointer (some ⟨tb, 0, none⟩)) ?_ ⟨rfl, hrefl _, hI⟩
        go_simp
      · refine Reg.StepAt.plain (i := 1) rfl ?_
        intro L ev w hI hk hp hA
        have e8 : ev (.tmp 8) = .slice (some ⟨g, 0, none⟩) n n := hA.oldNone 8 (by kernel_rfl)
        have hcc := hA.const
        clear hA hp
        refine Reg.out_value (v := .slice (some ⟨g, 0, none⟩) n n) ?_ ⟨rfl, hrefl _, hI⟩
        go_simp
      · refine Reg.StepAt.plain (i := 2) rfl ?_
        intro L ev w hI hk hp hA
        have e44 : ev (.tmp 44) = .slice (some ⟨g, 0, none⟩) n n := hA.val 1 _ 44 rfl (hp ⟨1, .data⟩ (by simp) rfl) rfl
        have hcc := hA.const
        clear hA hp
        have hst := str_cells w g n x hxl (fun j hj => (hI.cell (p := ⟨g, j, none⟩) hg).trans (Hx.out j hj))
        refine Reg.out_value (v := .string (⟨x.toArray⟩ : ByteArray)) ?_ ⟨rfl, hrefl _, hI⟩
        go_simp
      · refine Reg.StepAt.plain (i := 3) rfl ?_
        intro L ev w hI hk hp hA
        have e45 : ev (.tmp 45) = .string (⟨x.toArray⟩ : ByteArray) := hA.val 2 _ 45 rfl (hp ⟨2, .data⟩ (by simp) rfl) rfl
        have hcc := hA.const
        clear hA hp
        refine Reg.out_new (v := .slice (some ⟨w.heap.size, 0, none⟩) 1 1) (w' := w.alloc (.cells #[.string (⟨x.toArray⟩ : ByteArray)] 9)) ?_ ?_
        · go_simp
        · exact ⟨Reg.OwnSl.new [.string (⟨x.toArray⟩ : ByteArray)] w 9 1 rfl, (Reg.Keeps.refl _).alloc _, hI.alloc _⟩
      · refine Reg.StepAt.plain (i := 4) rfl ?_
        intro L ev w hI hk hp hA
        have e43 : ev (.tmp 43) = .pointer (some ⟨tb, 0, none⟩) := hA.val 0 _ 43 rfl (hp ⟨0, .data⟩ (by simp) rfl) rfl
        have e46 : (Reg.OwnSl [.string (⟨x.toArray⟩ : ByteArray)]) (ev (.tmp 46)) w := hA.val 3 _ 46 rfl (hp ⟨3, .data⟩ (by simp) rfl) rfl
        have hcc := hA.const
        have hcf := hA.func
        clear hA hp
        refine Reg.out_call (f := 43) (args := #[.pointer (some ⟨tb, 0, none⟩), ev (.tmp 46)]) (w0 := w) ?_ ?_
        · go_simp
        refine (sum_of tb [(⟨x.toArray⟩ : ByteArray)] zx _ w (TabAt.of Ht htb hI) (by simp) (by simpa using lx) Hzx e46).mono ?_
        rintro e w' ⟨rfl, n, rfl⟩
        exact ⟨_, rfl, rfl, (Reg.Keeps.refl _).drewN n, hI.drewN n⟩
      · refine Reg.StepAt.plain (i := 5) rfl ?_
        intro L ev w hI hk hp hA
        have e10 : ev (.tmp 10) = .pointer (some ⟨tb, 0, none⟩) := hA.oldNone 10 (by kernel_rfl)
        have hcc := hA.const
        clear hA hp
        refine Reg.out_value (v := .pointer (some ⟨tb, 0, none⟩)) ?_ ⟨rfl, hrefl _, hI⟩
        go_simp
      · refine Reg.StepAt.plain (i := 6) rfl ?_
        intro L ev w hI hk hp hA
        have e0 : ev (.tmp 0) = .string a := hA.oldNone 0 (by kernel_rfl)
        have hcc := hA.const
        clear hA hp
        refine Reg.out_value (v := .string a) ?_ ⟨rfl, hrefl _, hI⟩
        go_simp
      · refine Reg.StepAt.plain (i := 7) rfl ?_
        intro L ev w hI hk hp hA
        have e7 : ev (.tmp 7) = .int .i64 (n : Int) := hA.oldNone 7 (by kernel_rfl)
        have hcc := hA.const
        clear hA hp
        refine Reg.out_value (v := .int .i64 (n : Int)) ?_ ⟨rfl, hrefl _, hI⟩
        go_simp
      · refine Reg.StepAt.plain (i := 8) rfl ?_
        intro L ev w hI hk hp hA
        have e49 : ev (.tmp 49) = .string a := hA.val 6 _ 49 rfl (hp ⟨6, .data⟩ (by simp) rfl) rfl
        have e50 : ev (.tmp 50) = .int .i64 (n : Int) := hA.val 7 _ 50 rfl (hp ⟨7, .data⟩ (by simp) rfl) rfl
        have hcc := hA.const
        clear hA hp
        refine Reg.out_value (v := .string (a.extract 0 n)) ?_ ⟨rfl, hrefl _, hI⟩
        go_simp
      · refine Reg.StepAt.plain (i := 9) rfl ?_
        intro L ev w hI hk hp hA
        have e51 : ev (.tmp 51) = .string (a.extract 0 n) := hA.val 8 _ 51 rfl (hp ⟨8, .data⟩ (by simp) rfl) rfl
        have hcc := hA.const
        clear hA hp
        refine Reg.out_new (v := .slice (some ⟨w.heap.size, 0, none⟩) 1 1) (w' := w.alloc (.cells #[.string (a.extract 0 n)] 9)) ?_ ?_
        · go_simp
        · exact ⟨Reg.OwnSl.new [.string (a.extract 0 n)] w 9 1 rfl, (Reg.Keeps.refl _).alloc _, hI.alloc _⟩
      · refine Reg.StepAt.plain (i := 10) rfl ?_
        intro L ev w hI hk hp hA
        have e48 : ev (.tmp 48) = .pointer (some ⟨tb, 0, none⟩) := hA.val 5 _ 48 rfl (hp ⟨5, .data⟩ (by simp) rfl) rfl
        have e52 : (Reg.OwnSl [.string (a.extract 0 n)]) (ev (.tmp 52)) w := hA.val 9 _ 52 rfl (hp ⟨9, .data⟩ (by simp) rfl) rfl
        have hcc := hA.const
        have hcf := hA.func
        clear hA hp
        refine Reg.out_call (f := 43) (args := #[.pointer (some ⟨tb, 0, none⟩), ev (.tmp 52)]) (w0 := w) ?_ ?_
        · go_simp
        refine (sum_of tb [a.extract 0 n] za _ w (TabAt.of Ht htb hI) (by simp) (by simpa using la) Hza e52).mono ?_
        rintro e w' ⟨rfl, n, rfl⟩
        exact ⟨_, rfl, rfl, (Reg.Keeps.refl _).drewN n, hI.drewN n⟩
      · refine Reg.StepAt.plain (i := 11) rfl ?_
        intro L ev w hI hk hp hA
        have e10 : ev (.tmp 10) = .pointer (some ⟨tb, 0, none⟩) := hA.oldNone 10 (by kernel_rfl)
        have hcc := hA.const
        clear hA hp
        refine Reg.out_value (v := .pointer (some ⟨tb, 0, none⟩)) ?_ ⟨rfl, hrefl _, hI⟩
        go_simp
      · refine Reg.StepAt.plain (i := 12) rfl ?_
        intro L ev w hI hk hp hA
        have e1 : ev (.tmp 1) = .string b := hA.oldNone 1 (by kernel_rfl)
        have hcc := hA.const
        clear hA hp
        refine Reg.out_value (v := .string b) ?_ ⟨rfl, hrefl _, hI⟩
        go_simp
      · refine Reg.StepAt.plain (i := 13) rfl ?_
        intro L ev w hI hk hp hA
        have e7 : ev (.tmp 7) = .int .i64 (n : Int) := hA.oldNone 7 (by kernel_rfl)
        have hcc := hA.const
        clear hA hp
        refine Reg.out_value (v := .int .i64 (n : Int)) ?_ ⟨rfl, hrefl _, hI⟩
        go_simp
      · refine Reg.StepAt.plain (i := 14) rfl ?_
        intro L ev w hI hk hp hA
        have e55 : ev (.tmp 55) = .string b := hA.val 12 _ 55 rfl (hp ⟨12, .data⟩ (by simp) rfl) rfl
        have e56 : ev (.tmp 56) = .int .i64 (n : Int) := hA.val 13 _ 56 rfl (hp ⟨13, .data⟩ (by simp) rfl) rfl
        have hcc := hA.const
        clear hA hp
        refine Reg.out_value (v := .string (b.extract 0 n)) ?_ ⟨rfl, hrefl _, hI⟩
        go_simp
      · refine Reg.StepAt.plain (i := 15) rfl ?_
        intro L ev w hI hk hp hA
        have e57 : ev (.tmp 57) = .string (b.extract 0 n) := hA.val 14 _ 57 rfl (hp ⟨14, .data⟩ (by simp) rfl) rfl
        have hcc := hA.const
        clear hA hp
        refine Reg.out_new (v := .slice (some ⟨w.heap.size, 0, none⟩) 1 1) (w' := w.alloc (.cells #[.string (b.extract 0 n)] 9)) ?_ ?_
        · go_simp
        · exact ⟨Reg.OwnSl.new [.string (b.extract 0 n)] w 9 1 rfl, (Reg.Keeps.refl _).alloc _, hI.alloc _⟩
      · refine Reg.StepAt.plain (i := 16) rfl ?_
        intro L ev w hI hk hp hA
        have e54 : ev (.tmp 54) = .pointer (some ⟨tb, 0, none⟩) := hA.val 11 _ 54 rfl (hp ⟨11, .data⟩ (by simp) rfl) rfl
        have e58 : (Reg.OwnSl [.string (b.extract 0 n)]) (ev (.tmp 58)) w := hA.val 15 _ 58 rfl (hp ⟨15, .data⟩ (by simp) rfl) rfl
        have hcc := hA.const
        have hcf := hA.func
        clear hA hp
        refine Reg.out_call (f := 43) (args := #[.pointer (some ⟨tb, 0, none⟩), ev (.tmp 58)]) (w0 := w) ?_ ?_
        · go_simp
        refine (sum_of tb [b.extract 0 n] zb _ w (TabAt.of Ht htb hI) (by simp) (by simpa using lb) Hzb e58).mono ?_
        rintro e w' ⟨rfl, n, rfl⟩
        exact ⟨_, rfl, rfl, (Reg.Keeps.refl _).drewN n, hI.drewN n⟩
      · refine Reg.StepAt.plain (i := 17) rfl ?_
        intro L ev w hI hk hp hA
        have e53 : ev (.tmp 53) = .int .u32 (za : Int) := hA.val 10 _ 53 rfl (hp ⟨10, .data⟩ (by simp) rfl) rfl
        have e59 : ev (.tmp 59) = .int .u32 (zb : Int) := hA.val 16 _ 59 rfl (hp ⟨16, .data⟩ (by simp) rfl) rfl
        have hcc := hA.const
        clear hA hp
        refine Reg.out_value (v := .int .u32 ((za ^^^ zb : Nat) : Int)) ?_ ⟨rfl, hrefl _, hI⟩
        have hx := u32_xor_nat za zb hza hzb; go_simp
      · refine Reg.StepAt.plain (i := 18) rfl ?_
        intro L ev w hI hk hp hA
        have e10 : ev (.tmp 10) = .pointer (some ⟨tb, 0, none⟩) := hA.oldNone 10 (by kernel_rfl)
        have hcc := hA.const
        clear hA hp
        refine Reg.out_value (v := .pointer (some ⟨tb, 0, none⟩)) ?_ ⟨rfl, hrefl _, hI⟩
        go_simp
      · refine Reg.StepAt.plain (i := 19) rfl ?_
        intro L ev w hI hk hp hA
        have e2 : ev (.tmp 2) = .string c := hA.oldNone 2 (by kernel_rfl)
        have hcc := hA.const
        clear hA hp
        refine Reg.out_value (v := .string c) ?_ ⟨rfl, hrefl _, hI⟩
        go_simp
      · refine Reg.StepAt.plain (i := 20) rfl ?_
        intro L ev w hI hk hp hA
        have e7 : ev (.tmp 7) = .int .i64 (n : Int) := hA.oldNone 7 (by kernel_rfl)
        have hcc := hA.const
        clear hA hp
        refine Reg.out_value (v := .int .i64 (n : Int)) ?_ ⟨rfl, hrefl _, hI⟩
        go_simp
      · refine Reg.StepAt.plain (i := 21) rfl ?_
        intro L ev w hI hk hp hA
        have e62 : ev (.tmp 62) = .string c := hA.val 19 _ 62 rfl (hp ⟨19, .data⟩ (by simp) rfl) rfl
        have e63 : ev (.tmp 63) = .int .i64 (n : Int) := hA.val 20 _ 63 rfl (hp ⟨20, .data⟩ (by simp) rfl) rfl
        have hcc := hA.const
        clear hA hp
        refine Reg.out_value (v := .string (c.extract 0 n)) ?_ ⟨rfl, hrefl _, hI⟩
        go_simp
      · refine Reg.StepAt.plain (i := 22) rfl ?_
        intro L ev w hI hk hp hA
        have e64 : ev (.tmp 64) = .string (c.extract 0 n) := hA.val 21 _ 64 rfl (hp ⟨21, .data⟩ (by simp) rfl) rfl
        have hcc := hA.const
        clear hA hp
        refine Reg.out_new (v := .slice (some ⟨w.heap.size, 0, none⟩) 1 1) (w' := w.alloc (.cells #[.string (c.extract 0 n)] 9)) ?_ ?_
        · go_simp
        · exact ⟨Reg.OwnSl.new [.string (c.extract 0 n)] w 9 1 rfl, (Reg.Keeps.refl _).alloc _, hI.alloc _⟩
      · refine Reg.StepAt.plain (i := 23) rfl ?_
        intro L ev w hI hk hp hA
        have e61 : ev (.tmp 61) = .pointer (some ⟨tb, 0, none⟩) := hA.val 18 _ 61 rfl (hp ⟨18, .data⟩ (by simp) rfl) rfl
        have e65 : (Reg.OwnSl [.string (c.extract 0 n)]) (ev (.tmp 65)) w := hA.val 22 _ 65 rfl (hp ⟨22, .data⟩ (by simp) rfl) rfl
        have hcc := hA.const
        have hcf := hA.func
        clear hA hp
        refine Reg.out_call (f := 43) (args := #[.pointer (some ⟨tb, 0, none⟩), ev (.tmp 65)]) (w0 := w) ?_ ?_
        · go_simp
        refine (sum_of tb [c.extract 0 n] zc _ w (TabAt.of Ht htb hI) (by simp) (by simpa using lc) Hzc e65).mono ?_
        rintro e w' ⟨rfl, n, rfl⟩
        exact ⟨_, rfl, rfl, (Reg.Keeps.refl _).drewN n, hI.drewN n⟩
      · refine Reg.StepAt.plain (i := 24) rfl ?_
        intro L ev w hI hk hp hA
        have e60 : ev (.tmp 60) = .int .u32 ((za ^^^ zb : Nat) : Int) := hA.val 17 _ 60 rfl (hp ⟨17, .data⟩ (by simp) rfl) rfl
        have e66 : ev (.tmp 66) = .int .u32 (zc : Int) := hA.val 23 _ 66 rfl (hp ⟨23, .data⟩ (by simp) rfl) rfl
        have hcc := hA.const
        clear hA hp
        refine Reg.out_value (v := .int .u32 (zx : Int)) ?_ ⟨rfl, hrefl _, hI⟩
        have hx := u32_xor_nat (za ^^^ zb) zc hzab hzc; rw [Hz.out] at hx; go_simp
      · refine Reg.StepAt.plain (i := 25) rfl ?_
        intro L ev w hI hk hp hA
        have e47 : ev (.tmp 47) = .int .u32 (zx : Int) := hA.val 4 _ 47 rfl (hp ⟨4, .data⟩ (by simp) rfl) rfl
        have e67 : ev (.tmp 67) = .int .u32 (zx : Int) := hA.val 24 _ 67 rfl (hp ⟨24, .data⟩ (by simp) rfl) rfl
        have hcc := hA.const
        clear hA hp
        refine Reg.out_value (v := .bool true) ?_ ⟨rfl, hrefl _, hI⟩
        go_simp
      · refine Reg.StepAt.plain (i := 26) rfl ?_
        intro L ev w hI hk hp hA
        have e68 : ev (.tmp 68) = .bool true := hA.val 25 _ 68 rfl (hp ⟨25, .data⟩ (by simp) rfl) rfl
        have hcc := hA.const
        clear hA hp
        refine Reg.out_value (v := .bool true) ?_ ⟨rfl, hrefl _, hI⟩
        go_simp
      intro L act w' hall hI hF
      have h6 : act.eval (.tmp 6) = .bool true := hF.val 26 _ 6 rfl (hall 26 (by simp)) rfl
      have hd : act.defers = [] := hF.defers
      clear hF hall
      go_wp2
      refine bodyPost_ret (results_tmp rfl act.tmps Try.prog w') hd ?_
      exact ⟨congrArg Ending.returned h6, Below.trans HB.out (Below.mono hI HBs.out)⟩
end Go.Proofs.Ytedhecbcpcmlmaa
