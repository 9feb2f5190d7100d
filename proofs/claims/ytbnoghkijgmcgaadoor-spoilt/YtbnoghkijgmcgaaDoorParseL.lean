/- parseType at a letter without brackets. -/
import Derived.Test.YtbnoghkijgmcgaaDoorParseT
set_option linter.unusedVariables false
namespace Go.Proofs.YtbnoghkijgmcgaaDoor
open Go.RowKit

theorem bp_gen {P : Program} {fn : Func} {post : Ending → World → Prop} {ex : Exit} {a : Act} {w : World} (F : World → Prop) (hF : F w) (h : ∀ W, F W → bodyPost P fn post ex a W) : bodyPost P fn post ex a w := h w hF

theorem set8_row (W : World) (g : Nat) (t : TypeId) (z : Array Value) (hz : z.size = 8) (hg : W.heap[g]? = some (.cells z t (0, 0))) (u0 u1 u2 u3 u4 u5 u6 u7 : Value) :
    ((((((((W.setCell ⟨g, 0, none⟩ u0).setCell ⟨g, 1, none⟩ u1).setCell ⟨g, 2, none⟩ u2).setCell ⟨g, 3, none⟩ u3).setCell ⟨g, 4, none⟩ u4).setCell ⟨g, 5, none⟩ u5).setCell ⟨g, 6, none⟩ u6).setCell ⟨g, 7, none⟩ u7).heap[g]? = some (.cells #[u0, u1, u2, u3, u4, u5, u6, u7] t (0, 0)) := by
  have h0 := heap_setCell_same W g 0 _ t u0 hg
  have h1 := heap_setCell_same _ g 1 _ t u1 h0
  have h2 := heap_setCell_same _ g 2 _ t u2 h1
  have h3 := heap_setCell_same _ g 3 _ t u3 h2
  have h4 := heap_setCell_same _ g 4 _ t u4 h3
  have h5 := heap_setCell_same _ g 5 _ t u5 h4
  have h6 := heap_setCell_same _ g 6 _ t u6 h5
  have h7 := heap_setCell_same _ g 7 _ t u7 h6
  refine h7.trans ?_
  clear h7 h6 h5 h4 h3 h2 h1 h0 hg
  match z, hz with
  | ⟨[z0, z1, z2, z3, z4, z5, z6, z7]⟩, _ => simp

theorem row_drew {X w0 : World} {g B : Nat} {o : Obj} (h : X.heap[g]? = some o ∧ Below B w0 X) : X.drew.heap[g]? = some o ∧ Below B w0 X.drew := ⟨h.1, h.2.drew⟩

theorem set8_below {B : Nat} {w0 : World} (W : World) (g : Nat) (hg : B ≤ g) (h : Below B w0 W) (u0 u1 u2 u3 u4 u5 u6 u7 : Value) :
    Below B w0 ((((((((W.setCell ⟨g, 0, none⟩ u0).setCell ⟨g, 1, none⟩ u1).setCell ⟨g, 2, none⟩ u2).setCell ⟨g, 3, none⟩ u3).setCell ⟨g, 4, none⟩ u4).setCell ⟨g, 5, none⟩ u5).setCell ⟨g, 6, none⟩ u6).setCell ⟨g, 7, none⟩ u7) :=
  (((((((h.setCell (p := ⟨g, 0, none⟩) hg u0).setCell (p := ⟨g, 1, none⟩) hg u1).setCell (p := ⟨g, 2, none⟩) hg u2).setCell (p := ⟨g, 3, none⟩) hg u3).setCell (p := ⟨g, 4, none⟩) hg u4).setCell (p := ⟨g, 5, none⟩) hg u5).setCell (p := ⟨g, 6, none⟩) hg u6).setCell (p := ⟨g, 7, none⟩) hg u7

theorem below_drop {B : Nat} {w0 w W : World} (h : Below B w0 w) (hh : ∀ k, k < B → W.heap[k]? = w.heap[k]?) (hs : W.heap.size = w.heap.size) (ho : W.os = w.os) (ht : W.tape = w.tape) (hp : W.output = w.output) : Below B w0 W :=
  ⟨ho.trans h.os, ht.trans h.tape, hp.trans h.output, by rw [hs]; exact h.size, fun k hk => (hh k hk).trans (h.block k hk)⟩

set_option maxRecDepth 8000 in
set_option maxHeartbeats 1000000 in
theorem pt_leaf (w : World) (s : ByteArray) (d : Int) (hT : Table w) (hpn : 0 < s.size) (hd : d ≤ 8) (l : Orch.Lt) (h : Orch.find s[0] = some l) (hl : l.fin = 0) :
    Calls Tryd.prog 31 #[.string s, .int .i64 d] w fun e w' => e = .returned (.tuple #[tval l (.slice none 0 0), .string (s.extract 1 s.size), .bool true]) ∧ Below w.heap.size w w' := by
  have hne : ¬ s.toList = [] := fun h => by have := (toList_nil s).1 h; omega
  have hnB : (s.toList == []) = false := by simpa using hne
  have hpz : (0 : Int) < (s.size : Int) := by omega
  have HT1 : Hid (Table (w.alloc (.cells #[.int .u8 0, .int .i64 0, .int .i64 0, .int .i64 0, .int .i64 0, .bool false, .int .u8 0, .slice none 0 0] 62))) := hT.below (below1 _ _) hT.pos
  have HF := findLetter_any (w.alloc (.cells #[.int .u8 0, .int .i64 0, .int .i64 0, .int .i64 0, .int .i64 0, .bool false, .int .u8 0, .slice none 0 0] 62)) HT1.out s[0]
  unfold findEnd at HF
  rw [h] at HF
  obtain ⟨x0, hx0⟩ : ∃ x0, s[0] = x0 := ⟨_, rfl⟩
  rw [hx0] at HF
  have hfn : (l.fin.toNat : Int) = 0 := by rw [hl]; rfl
  simp only [lval, ltv, hfn] at HF
  simp only [tval, tyv, hfn]
  have HFF := hide HF
  clear HF h hT hl hfn
  generalize l.sign.toNat = sg at *
  generalize l.shape = sh at *
  generalize l.size = sz at *
  generalize l.least = lo at *
  generalize l.most = hi at *
  generalize l.text = tx at *
  have N0 := hide (heap_alloc_new w (.cells #[.int .u8 0, .int .i64 0, .int .i64 0, .int .i64 0, .int .i64 0, .bool false, .int .u8 0, .slice none 0 0] 62))
  go_enter Tryd.func31, Tryd.ntmps31
  go_wp2_with (go_at_call 45; refine HFF.out.mono ?_; rintro e w1 ⟨rfl, hb1⟩; have HB1 : Hid (Below w.heap.size w w1) := (below1 _ _).trans (hb1.mono (by simp)); have HH : Hid (w1.heap[w.heap.size]? = some (.cells #[.int .u8 0, .int .i64 0, .int .i64 0, .int .i64 0, .int .i64 0, .bool false, .int .u8 0, .slice none 0 0] 62)) := (hb1.block _ (ltOf N0.out)).trans N0.out; clear hb1)
  have q0 : (w1.alloc (.cells #[.int .u8 sg, .int .i64 sh, .int .i64 sz, .int .i64 lo, .int .i64 hi, .bool tx, .int .u8 0] 59)).heap[w.heap.size]? = _ := (Below.heap_alloc _ _ _ (ltOf HH.out)).trans HH.out
  refine wp_gen (fun W => Below w.heap.size w W ∧ W.heap[w.heap.size]? = some (.cells #[.int .u8 0, .int .i64 0, .int .i64 0, .int .i64 0, .int .i64 0, .bool false, .int .u8 0, .slice none 0 0] 62) ∧ W.heap[w1.heap.size]? = some (.cells #[.int .u8 sg, .int .i64 sh, .int .i64 sz, .int .i64 lo, .int .i64 hi, .bool tx, .int .u8 0] 59))
    ⟨HB1.out.alloc HB1.out.size _, q0, heap_alloc_new _ _⟩ ?_
  have hGne : w.heap.size < w1.heap.size := ltOf HH.out
  clear q0 N0 HFF HB1 HH HT1
  generalize w1.heap.size = G at *
  rintro W ⟨hbW, m0, m1⟩
  have a0 := cellOf (j := 0) m0 rfl
  have a1 := cellOf (j := 1) m0 rfl
  have a2 := cellOf (j := 2) m0 rfl
  have a3 := cellOf (j := 3) m0 rfl
  have a4 := cellOf (j := 4) m0 rfl
  have a5 := cellOf (j := 5) m0 rfl
  have a6 := cellOf (j := 6) m0 rfl
  have a7 := cellOf (j := 7) m0 rfl
  have f0 := frozenOf (j := 0) m0
  have f1 := frozenOf (j := 1) m0
  have f2 := frozenOf (j := 2) m0
  have f3 := frozenOf (j := 3) m0
  have f4 := frozenOf (j := 4) m0
  have f5 := frozenOf (j := 5) m0
  have f6 := frozenOf (j := 6) m0
  have f7 := frozenOf (j := 7) m0
  have M0 := hide m0
  have b0 := cellOf (j := 0) m1 rfl
  have b1 := cellOf (j := 1) m1 rfl
  have b2 := cellOf (j := 2) m1 rfl
  have b3 := cellOf (j := 3) m1 rfl
  have b4 := cellOf (j := 4) m1 rfl
  have b5 := cellOf (j := 5) m1 rfl
  have b6 := cellOf (j := 6) m1 rfl
  have HW := hide hbW
  clear hbW m0 m1
  go_region
  all_goals go_wp2
  all_goals refine bp_gen (fun X => X.heap[w.heap.size]? = some (.cells #[.int .u8 sg, .int .i64 sh, .int .i64 sz, .int .i64 lo, .int .i64 hi, .bool tx, .int .u8 0, .slice none 0 0] 62) ∧ Below w.heap.size w X) (row_drew ⟨set8_row W _ _ _ rfl M0.out _ _ _ _ _ _ _ _, set8_below W _ (Nat.le_refl _) HW.out _ _ _ _ _ _ _ _⟩) ?_
  all_goals rintro X ⟨HQ, hbX⟩
  all_goals have c0 := cellOf (j := 0) HQ rfl
  all_goals have c1 := cellOf (j := 1) HQ rfl
  all_goals have c2 := cellOf (j := 2) HQ rfl
  all_goals have c3 := cellOf (j := 3) HQ rfl
  all_goals have c4 := cellOf (j := 4) HQ rfl
  all_goals have c5 := cellOf (j := 5) HQ rfl
  all_goals have c6 := cellOf (j := 6) HQ rfl
  all_goals have c7 := cellOf (j := 7) HQ rfl
  all_goals exact bodyPost_ret (v := .tuple #[tyv sg sh sz lo hi tx 0 (.slice none 0 0), .string (s.extract 1 s.size), .bool true]) (by simp [results, Tryd.results31, go_sem, c0, c1, c2, c3, c4, c5, c6, c7]) rfl ⟨rfl, hbX⟩
end Go.Proofs.YtbnoghkijgmcgaaDoor
