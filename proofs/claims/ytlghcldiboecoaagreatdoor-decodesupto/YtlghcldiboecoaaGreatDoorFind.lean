/- The table of letters. -/
import Derived.Test.YtlghcldiboecoaaGreatDoorTake
namespace Go.Proofs.YtlghcldiboecoaaGreatDoor
open Go.RowKit

/-- The cells of the table. -/
def letCells : Array Value := #[.int .u8 63, .int .i64 0, .int .i64 1, .int .i64 0, .int .i64 1, .bool false, .int .u8 0,
  .int .u8 52, .int .i64 0, .int .i64 4, .int .i64 (-2147483648), .int .i64 2147483647, .bool false, .int .u8 0,
  .int .u8 56, .int .i64 0, .int .i64 8, .int .i64 (-9223372036854775808), .int .i64 9223372036854775807, .bool false, .int .u8 0,
  .int .u8 98, .int .i64 1, .int .i64 0, .int .i64 0, .int .i64 0, .bool false, .int .u8 0,
  .int .u8 116, .int .i64 1, .int .i64 0, .int .i64 0, .int .i64 0, .bool true, .int .u8 0,
  .int .u8 91, .int .i64 2, .int .i64 0, .int .i64 0, .int .i64 0, .bool false, .int .u8 93,
  .int .u8 40, .int .i64 3, .int .i64 0, .int .i64 0, .int .i64 0, .bool false, .int .u8 41]

/-- The table lies in its variable. -/
def Table (w : World) : Prop := ∃ t fr, w.heap[3]? = some (.cells letCells t fr)

theorem Table.below {B : Nat} {w w' : World} (h : Table w) (hb : Below B w w') (hB : 4 ≤ B) : Table w' := by
  obtain ⟨t, fr, h⟩ := h
  exact ⟨t, fr, (hb.block 3 (by omega)).trans h⟩

theorem ix (k : Nat) (l : Orch.Lt) (hk : Orch.letters[k]? = some l) : ∀ w, (Instr.index 395 (.agg letCells) (.int .i64 k)).run Tryz.prog w = .ok (lval l) w := by
  match k, hk with
  | 0, hk => simp [Orch.letters] at hk; subst hk; intro w; kernel_rfl
  | 1, hk => simp [Orch.letters] at hk; subst hk; intro w; kernel_rfl
  | 2, hk => simp [Orch.letters] at hk; subst hk; intro w; kernel_rfl
  | 3, hk => simp [Orch.letters] at hk; subst hk; intro w; kernel_rfl
  | 4, hk => simp [Orch.letters] at hk; subst hk; intro w; kernel_rfl
  | 5, hk => simp [Orch.letters] at hk; subst hk; intro w; kernel_rfl
  | 6, hk => simp [Orch.letters] at hk; subst hk; intro w; kernel_rfl

theorem Tryz.size224 : (Tryz.prog.info? 224).map (·.size) = some 7 := by kernel_rfl
theorem Tryz.size227 : (Tryz.prog.info? 227).map (·.size) = some 8 := by kernel_rfl
theorem Tryz.size113 : (Tryz.prog.info? 113).map (·.size) = some 3 := by kernel_rfl

theorem one_lt (a b c d e : Int) (f : Bool) (g : Int) : (#[Value.int .u8 a, .int .i64 b, .int .i64 c, .int .i64 d, .int .i64 e, .bool f, .int .u8 g].all (·.oneCell')) = true := by simp [Value.oneCell']
theorem one_ty (a b c d e : Int) (f : Bool) (g : Int) (x : Option Addr) (n m : Nat) : (#[Value.int .u8 a, .int .i64 b, .int .i64 c, .int .i64 d, .int .i64 e, .bool f, .int .u8 g, .slice x n m].all (·.oneCell')) = true := by simp [Value.oneCell']
theorem one_v (a : Int) (s : ByteArray) (x : Option Addr) (n m : Nat) : (#[Value.int .i64 a, .string s, .slice x n m].all (·.oneCell')) = true := by simp [Value.oneCell']

theorem below_setRow {B : Nat} {a w : World} (h : Below B a w) {g : Nat} (hg : B ≤ g) (cs : Array Value) : Below B a (w.setRow g cs) :=
  h.trans ⟨rfl, rfl, rfl, by simp, fun k hk => setRow_other _ _ _ _ (by omega)⟩

/-- The first letter from place k on that has the sign. -/
def findFrom (c : UInt8) (k : Nat) : Option Orch.Lt := (Orch.letters.drop k).find? fun l => l.sign == c

def findEnd (c : UInt8) (e : Ending) : Prop :=
  match Orch.find c with
  | none => e = .returned (.tuple #[ltv 0 0 0 0 0 false 0, .bool false])
  | some l => e = .returned (.tuple #[lval l, .bool true])

set_option maxHeartbeats 1000000 in
theorem findLetter_any (w : World) (hT : Table w) (c : UInt8) :
    Calls Tryz.prog 241 #[.int .u8 c.toNat] w fun e w' => findEnd c e ∧ Below w.heap.size w w' := by
  obtain ⟨tt, fr, h0⟩ := hT
  have hpos := ltOf h0
  have h0' : (w.alloc (.cells #[.int .u8 0, .int .i64 0, .int .i64 0, .int .i64 0, .int .i64 0, .bool false, .int .u8 0] 224)).heap[3]? = some (.cells letCells tt fr) := by
    rw [Below.heap_alloc _ _ _ hpos]; exact h0
  obtain ⟨F, hF⟩ : ∃ F, findFrom c 0 = F := ⟨_, rfl⟩
  have HF : Hid (findFrom c 0 = F) := hF
  clear hF
  have hc : c.toNat < 256 := c.toNat_lt
  go_enter Tryz.func241, Tryz.ntmps241
  go_wp2_with (refine wpList_load_row rfl 395 _ rfl 3 rfl tt _ fr _ h0' Tryz.underlying395 rfl (by kernel_rfl) ?_)
  clear h0' h0
  go_loopw [7] (fun i wr => ∃ k : Nat, k ≤ 7 ∧ i = .int .i64 k ∧ Hid (findFrom c k = F) ∧ Hid (Below w.heap.size w wr) ∧ Hid (wr.heap[w.heap.size]? = some (.cells #[.int .u8 0, .int .i64 0, .int .i64 0, .int .i64 0, .int .i64 0, .bool false, .int .u8 0] 224)))
    (fun i _ => 7 - (intOf i).toNat)
  case atStart => exact ⟨0, by omega, rfl, HF, below1 _ _, heap_alloc_new _ _⟩
  case round =>
    obtain ⟨k, hk, rfl, HK, HB, HH⟩ := hrel
    have hwlt := ltOf HH.out
    by_cases hlt : k < 7
    · obtain ⟨l, hl⟩ : ∃ l, Orch.letters[k]? = some l := ⟨Orch.letters[k]'hlt, List.getElem?_eq_getElem hlt⟩
      have hix := ix k l hl
      have HN : Hid (findFrom c k = if l.sign == c then some l else findFrom c (k + 1)) := by
        show _ = _
        unfold findFrom
        have : Orch.letters.drop k = l :: Orch.letters.drop (k + 1) := by
          obtain ⟨h1, h2⟩ := List.getElem?_eq_some_iff.1 hl
          rw [List.drop_eq_getElem_cons h1, h2]
        rw [this, List.find?_cons]
        cases l.sign == c <;> rfl
      clear hl
      by_cases hs : l.sign = c
      · have ht : ((l.sign.toNat : Int) == (c.toNat : Int)) = true := by rw [hs]; simp
        have HR : Hid (F = some l) := by
          show _ = _
          rw [← HK.out, HN.out, hs]; simp
        clear hs HN HK
        have hrow : (wr.alloc (.cells #[.int .u8 l.sign.toNat, .int .i64 l.shape, .int .i64 l.size, .int .i64 l.least, .int .i64 l.most, .bool l.text, .int .u8 l.fin.toNat] 224)).heap[w.heap.size]? = _ := (Below.heap_alloc _ _ _ hwlt).trans HH.out
        have HQ := setRow_heap _ _ _ #[.int .u8 l.sign.toNat, .int .i64 l.shape, .int .i64 l.size, .int .i64 l.least, .int .i64 l.most, .bool l.text, .int .u8 l.fin.toNat] _ _ hrow
        have HR2 : Hid (_ = _) := hrow
        have c0 := cellOf (j := 0) HQ rfl
        have c1 := cellOf (j := 1) HQ rfl
        have c2 := cellOf (j := 2) HQ rfl
        have c3 := cellOf (j := 3) HQ rfl
        have c4 := cellOf (j := 4) HQ rfl
        have c5 := cellOf (j := 5) HQ rfl
        have c6 := cellOf (j := 6) HQ rfl
        clear HQ hrow
        generalize letCells = LC at *
        go_wp2_with (refine wpList_store_row rfl 224 _ _ rfl w.heap.size #[.int .u8 l.sign.toNat, .int .i64 l.shape, .int .i64 l.size, .int .i64 l.least, .int .i64 l.most, .bool l.text, .int .u8 l.fin.toNat] rfl rfl 224 _ HR2.out Tryz.size224 rfl (one_lt _ _ _ _ _ _ _) ?_)
        refine bodyPost_ret (v := .tuple #[lval l, .bool true]) (by simp [results, Tryz.results241, go_sem, c0, c1, c2, c3, c4, c5, c6]) rfl ⟨?_, ?_⟩
        · unfold findEnd
          have e : Orch.find c = some l := (show findFrom c 0 = some l from HF.out.trans HR.out)
          rw [e]
        · exact below_setRow (HB.out.alloc HB.out.size _) (Nat.le_refl _) _
      · have ht : ((l.sign.toNat : Int) == (c.toNat : Int)) = false := by
          rw [beq_eq_false_iff_ne]
          intro h
          exact hs (UInt8.toNat_inj.1 (by omega))
        have HR : Hid (findFrom c (k + 1) = F) := by
          show _ = _
          rw [← HK.out, HN.out]
          simp [hs]
        clear hs HN HK
        generalize letCells = LC at *
        go_wp2
        go_roundw
        case rel => exact ⟨k + 1, by omega, by go_num, HR, HB.out.alloc HB.out.size _, (Below.heap_alloc _ _ _ hwlt).trans HH.out⟩
        case measure => simp [intOf]; omega
    · have hk7 : k = 7 := by omega
      subst hk7
      have HQ := setRow_heap _ _ _ #[.int .u8 0, .int .i64 0, .int .i64 0, .int .i64 0, .int .i64 0, .bool false, .int .u8 0] _ _ HH.out
      have c0 := cellOf (j := 0) HQ rfl
      have c1 := cellOf (j := 1) HQ rfl
      have c2 := cellOf (j := 2) HQ rfl
      have c3 := cellOf (j := 3) HQ rfl
      have c4 := cellOf (j := 4) HQ rfl
      have c5 := cellOf (j := 5) HQ rfl
      have c6 := cellOf (j := 6) HQ rfl
      clear HQ
      generalize letCells = LC at *
      go_wp2_with (refine wpList_store_row rfl 224 _ _ rfl w.heap.size #[.int .u8 0, .int .i64 0, .int .i64 0, .int .i64 0, .int .i64 0, .bool false, .int .u8 0] rfl rfl 224 _ HH.out Tryz.size224 rfl (one_lt _ _ _ _ _ _ _) ?_)
      refine bodyPost_ret (v := .tuple #[ltv 0 0 0 0 0 false 0, .bool false]) (by simp [results, Tryz.results241, go_sem, c0, c1, c2, c3, c4, c5, c6]) rfl ⟨?_, ?_⟩
      · unfold findEnd
        have e : Orch.find c = none := (show findFrom c 0 = none from HF.out.trans (HK.out.symm.trans rfl))
        rw [e]
      · exact below_setRow HB.out (Nat.le_refl _) _
end Go.Proofs.YtlghcldiboecoaaGreatDoor

/- How lists of types and of values grow by append. -/
namespace Go.Proofs.YtlghcldiboecoaaGreatDoor
open Go.RowKit

/-- The blocks from base on that are not the slice's own row. -/
def Beside (base : Nat) (v : Value) (w : World) (b : Nat) : Prop := base ≤ b ∧ b < w.heap.size ∧ v.ownBlock ≠ some b

theorem ownsRow_below {w w1 : World} {base : Nat} {e : TypeId} {size : Nat} {v : Value} {n : Nat} {xs : List Value} (h : w.ownsRow base e size v n xs) (hb : Below w.heap.size w w1) : w1.ownsRow base e size v n xs :=
  h.kept (row := none) ⟨hb.os, hb.tape, hb.output, hb.size, fun k hk _ => hb.block k hk⟩ (by cases hv : v.ownBlock <;> simp)

theorem ownBlock_lt {w : World} {base : Nat} {e : TypeId} {size : Nat} {v : Value} {n : Nat} {xs : List Value} (h : w.ownsRow base e size v n xs) {g : Nat} (hg : v.ownBlock = some g) : base ≤ g ∧ g < w.heap.size := h.lt g hg

/-- A list of types, owned, and one type more that was made by a call, appended. -/
theorem grow_T {wr w1 w2 w3 : World} {base : Nat} {v : Value} {ps : List (Orch.Ty × Value)} {t : Orch.Ty} {x : Value} {g cap : Nat}
    (hbase : base ≤ wr.heap.size) (hown : wr.ownsRow base 227 8 v ps.length (ps.flatMap tcell)) (hps : ∀ p, p ∈ ps → TsAt wr (Beside base v wr) p.1.ps p.2)
    (hb1 : Below wr.heap.size wr w1) (hx : TsAt w1 (fun b => wr.heap.size ≤ b ∧ b < w1.heap.size) t.ps x) (hb2 : Below w1.heap.size w1 w2)
    (hown3 : w3.ownsRow base 227 8 (.slice (some ⟨g, 0, none⟩) (ps.length + 1) cap) (ps.length + 1) (ps.flatMap tcell ++ tcell (t, x))) (hgr : w2.grownBy w3 v.ownBlock) (hat : v.ownBlock = some g ∨ g = w2.heap.size) :
    w3.ownsRow base 227 8 (.slice (some ⟨g, 0, none⟩) (ps.length + 1) cap) (ps ++ [(t, x)]).length ((ps ++ [(t, x)]).flatMap tcell) ∧
    (∀ p, p ∈ ps ++ [(t, x)] → TsAt w3 (Beside base (.slice (some ⟨g, 0, none⟩) (ps.length + 1) cap) w3) p.1.ps p.2) ∧ Below base wr w3 := by
  have s1 := hb1.size
  have s2 := hb2.size
  have s3 := hgr.size
  refine ⟨by rw [List.length_append, List.flatMap_append]; simpa using hown3, ?_, ?_⟩
  · intro p hp
    rw [List.mem_append] at hp
    rcases hp with hp | hp
    · refine (hps p hp).congr (fun b ⟨h1, h2, h3⟩ => ⟨h1, by omega, ?_⟩) (fun b ⟨h1, h2, h3⟩ => ?_)
      · intro he
        have he' : g = b := by simpa [Value.ownBlock] using he
        subst he'
        rcases hat with h | h
        · exact h3 h
        · omega
      · rw [hgr.block b (by omega) (fun e => h3 e.symm), hb2.block b (by omega), hb1.block b h2]
    · obtain rfl : p = (t, x) := by simpa using hp
      refine hx.congr (fun b ⟨h1, h2⟩ => ⟨by omega, by omega, ?_⟩) (fun b ⟨h1, h2⟩ => ?_)
      · intro he
        have he' : g = b := by simpa [Value.ownBlock] using he
        subst he'
        rcases hat with h | h
        · have := (ownBlock_lt hown h).2; omega
        · omega
      · rw [hgr.block b (by omega) (fun e => by have := (ownBlock_lt hown e.symm).2; omega), hb2.block b h2]
  · exact ((hb1.mono hbase).trans (hb2.mono (by omega))).grown hgr (by omega) (fun k hk => (ownBlock_lt hown hk).1)

theorem grow_V {wr w1 w2 w3 : World} {base : Nat} {v : Value} {ps : List (Orch.V × Value)} {t : Orch.V} {x : Value} {g cap : Nat}
    (hbase : base ≤ wr.heap.size) (hown : wr.ownsRow base 113 3 v ps.length (ps.flatMap vcell)) (hps : ∀ p, p ∈ ps → VsAt wr (Beside base v wr) p.1.l p.2)
    (hb1 : Below wr.heap.size wr w1) (hx : VsAt w1 (fun b => wr.heap.size ≤ b ∧ b < w1.heap.size) t.l x) (hb2 : Below w1.heap.size w1 w2)
    (hown3 : w3.ownsRow base 113 3 (.slice (some ⟨g, 0, none⟩) (ps.length + 1) cap) (ps.length + 1) (ps.flatMap vcell ++ vcell (t, x))) (hgr : w2.grownBy w3 v.ownBlock) (hat : v.ownBlock = some g ∨ g = w2.heap.size) :
    w3.ownsRow base 113 3 (.slice (some ⟨g, 0, none⟩) (ps.length + 1) cap) (ps ++ [(t, x)]).length ((ps ++ [(t, x)]).flatMap vcell) ∧
    (∀ p, p ∈ ps ++ [(t, x)] → VsAt w3 (Beside base (.slice (some ⟨g, 0, none⟩) (ps.length + 1) cap) w3) p.1.l p.2) ∧ Below base wr w3 := by
  have s1 := hb1.size
  have s2 := hb2.size
  have s3 := hgr.size
  refine ⟨by rw [List.length_append, List.flatMap_append]; simpa using hown3, ?_, ?_⟩
  · intro p hp
    rw [List.mem_append] at hp
    rcases hp with hp | hp
    · refine (hps p hp).congr (fun b ⟨h1, h2, h3⟩ => ⟨h1, by omega, ?_⟩) (fun b ⟨h1, h2, h3⟩ => ?_)
      · intro he
        have he' : g = b := by simpa [Value.ownBlock] using he
        subst he'
        rcases hat with h | h
        · exact h3 h
        · omega
      · rw [hgr.block b (by omega) (fun e => h3 e.symm), hb2.block b (by omega), hb1.block b h2]
    · obtain rfl : p = (t, x) := by simpa using hp
      refine hx.congr (fun b ⟨h1, h2⟩ => ⟨by omega, by omega, ?_⟩) (fun b ⟨h1, h2⟩ => ?_)
      · intro he
        have he' : g = b := by simpa [Value.ownBlock] using he
        subst he'
        rcases hat with h | h
        · have := (ownBlock_lt hown h).2; omega
        · omega
      · rw [hgr.block b (by omega) (fun e => by have := (ownBlock_lt hown e.symm).2; omega), hb2.block b h2]
  · exact ((hb1.mono hbase).trans (hb2.mono (by omega))).grown hgr (by omega) (fun k hk => (ownBlock_lt hown hk).1)

/-- .. at the end. -/
theorem done_T {w : World} {base B : Nat} {v : Value} {ps : List (Orch.Ty × Value)} (hown : w.ownsRow base 227 8 v ps.length (ps.flatMap tcell)) (hps : ∀ p, p ∈ ps → TsAt w (Beside base v w) p.1.ps p.2) (hB : B ≤ base) :
    TsAt w (fun b => B ≤ b ∧ b < w.heap.size) (ps.map Prod.fst) v :=
  TsAt.of_own hown (fun p hp => (hps p hp).congr (fun b ⟨h1, h2, _⟩ => ⟨by omega, h2⟩) (fun _ _ => rfl)) (fun g hg => by have := ownBlock_lt hown hg; exact ⟨by omega, this.2⟩)

theorem done_V {w : World} {base B : Nat} {v : Value} {ps : List (Orch.V × Value)} (hown : w.ownsRow base 113 3 v ps.length (ps.flatMap vcell)) (hps : ∀ p, p ∈ ps → VsAt w (Beside base v w) p.1.l p.2) (hB : B ≤ base) :
    VsAt w (fun b => B ≤ b ∧ b < w.heap.size) (ps.map Prod.fst) v :=
  VsAt.of_own hown (fun p hp => (hps p hp).congr (fun b ⟨h1, h2, _⟩ => ⟨by omega, h2⟩) (fun _ _ => rfl)) (fun g hg => by have := ownBlock_lt hown hg; exact ⟨by omega, this.2⟩)

end Go.Proofs.YtlghcldiboecoaaGreatDoor
