/- parseType at a bracket. -/
import Derived.Test.YtbnoghkijgmcgaaDoorParseT
set_option linter.unusedVariables false
namespace Go.Proofs.YtbnoghkijgmcgaaDoor
open Go.RowKit

set_option maxRecDepth 8000 in
set_option maxHeartbeats 1000000 in
/-- The walk, whatever parseParts gives. -/
theorem pt_node (w : World) (s : ByteArray) (d : Int) (hT : Table w) (hpn : 0 < s.size) (hd0 : 0 ≤ d) (hd : d ≤ 8) (l : Orch.Lt) (h : Orch.find s[0] = some l) (hl : l.fin ≠ 0)
    (pv : World → Option Addr → Nat → Nat → ByteArray → Bool → World → Prop)
    (HP : Hid (∀ w', Table w' → Calls Tryd.prog 46 #[.string (s.extract 1 s.size), lval l, .int .i64 (d + 1)] w' fun e w'' => (∃ a m c r ok, e = .returned (.tuple #[.slice a m c, .string r, .bool ok]) ∧ pv w' a m c r ok w'') ∧ Below w'.heap.size w' w'')) :
    Calls Tryd.prog 31 #[.string s, .int .i64 d] w fun e w' => (∃ wa wb a m c r ok, e = .returned (.tuple #[tval l (.slice a m c), .string r, .bool ok]) ∧ pv wa a m c r ok wb ∧ w.heap.size < wa.heap.size ∧ w'.heap.size = wb.heap.size ∧ ∀ b, w.heap.size < b → w'.heap[b]? = wb.heap[b]?) ∧ Below w.heap.size w w' := by
  have hne : ¬ s.toList = [] := fun h => by have := (toList_nil s).1 h; omega
  have hnB : (s.toList == []) = false := by simpa using hne
  have hpz : (0 : Int) < (s.size : Int) := by omega
  have HT1 : Hid (Table (w.alloc (.cells #[.int .u8 0, .int .i64 0, .int .i64 0, .int .i64 0, .int .i64 0, .bool false, .int .u8 0, .slice none 0 0] 62))) := hT.below (below1 _ _) hT.pos
  have HTT : Hid (∀ w', Below w.heap.size w w' → Table w') := fun w' hb => hT.below hb hT.pos
  have HF := findLetter_any (w.alloc (.cells #[.int .u8 0, .int .i64 0, .int .i64 0, .int .i64 0, .int .i64 0, .bool false, .int .u8 0, .slice none 0 0] 62)) HT1.out s[0]
  unfold findEnd at HF
  rw [h] at HF
  obtain ⟨x0, hx0⟩ : ∃ x0, s[0] = x0 := ⟨_, rfl⟩
  rw [hx0] at HF
  have hfn : ((l.fin.toNat : Int) == 0) = false := by
    rw [beq_eq_false_iff_ne]
    intro h
    exact hl (UInt8.toNat_inj.1 (by simp; omega))
  have HFF := hide HF
  clear HF h hT hl
  simp only [lval, ltv, tval, tyv] at HFF HP ⊢
  generalize l.sign.toNat = sg at *
  generalize l.shape = sh at *
  generalize l.size = sz at *
  generalize l.least = lo at *
  generalize l.most = hi at *
  generalize l.text = tx at *
  generalize l.fin.toNat = fn at *
  have N0 := hide (heap_alloc_new w (.cells #[.int .u8 0, .int .i64 0, .int .i64 0, .int .i64 0, .int .i64 0, .bool false, .int .u8 0, .slice none 0 0] 62))
  go_enter Tryd.func31, Tryd.ntmps31
  go_wp2_with (go_at_call 45; refine HFF.out.mono ?_; rintro e w1 ⟨rfl, hb1⟩; have HB1 : Hid (Below w.heap.size w w1) := (below1 _ _).trans (hb1.mono (by simp)); have HH : Hid (w1.heap[w.heap.size]? = some (.cells #[.int .u8 0, .int .i64 0, .int .i64 0, .int .i64 0, .int .i64 0, .bool false, .int .u8 0, .slice none 0 0] 62)) := (hb1.block _ (ltOf N0.out)).trans N0.out; clear hb1)
  have q0 : (w1.alloc (.cells #[.int .u8 sg, .int .i64 sh, .int .i64 sz, .int .i64 lo, .int .i64 hi, .bool tx, .int .u8 fn] 59)).heap[w.heap.size]? = _ := (Below.heap_alloc _ _ _ (ltOf HH.out)).trans HH.out
  refine wp_gen (fun W => Below w.heap.size w W ∧ W.heap[w.heap.size]? = some (.cells #[.int .u8 0, .int .i64 0, .int .i64 0, .int .i64 0, .int .i64 0, .bool false, .int .u8 0, .slice none 0 0] 62) ∧ W.heap[w1.heap.size]? = some (.cells #[.int .u8 sg, .int .i64 sh, .int .i64 sz, .int .i64 lo, .int .i64 hi, .bool tx, .int .u8 fn] 59))
    ⟨HB1.out.alloc HB1.out.size _, q0, heap_alloc_new _ _⟩ ?_
  have hGne : w.heap.size < w1.heap.size := ltOf HH.out
  clear q0 N0 HFF HB1 HH HT1
  generalize w1.heap.size = G at *
  rintro W ⟨hbW, m0, m1⟩
  have b0 := cellOf (j := 0) m1 rfl
  have b1 := cellOf (j := 1) m1 rfl
  have b2 := cellOf (j := 2) m1 rfl
  have b3 := cellOf (j := 3) m1 rfl
  have b4 := cellOf (j := 4) m1 rfl
  have b5 := cellOf (j := 5) m1 rfl
  have b6 := cellOf (j := 6) m1 rfl
  have HW := hide hbW
  have M0 := hide m0
  have M1 := hide m1
  clear hbW m0 m1
  go_region_with (
    go_at_call 46
    refine (HP.out _ (HTT.out _ (by first | exact HW.out | exact HW.out.drew | exact HW.out.drew.drew))).mono ?_
    rintro e w2 ⟨⟨ra, rm, rc, rr, ok, rfl, hpv⟩, hb2⟩
    have HPV := hide hpv
    have HB2 : Hid (Below w.heap.size w w2) := Below.trans (by first | exact HW.out | exact HW.out.drew | exact HW.out.drew.drew) (hb2.mono (by first | exact HW.out.size))
    have K0 : Hid (w2.heap[w.heap.size]? = some (.cells #[.int .u8 0, .int .i64 0, .int .i64 0, .int .i64 0, .int .i64 0, .bool false, .int .u8 0, .slice none 0 0] 62)) := (hb2.block _ (ltOf M0.out)).trans M0.out
    have K1 : Hid (w2.heap[G]? = some (.cells #[.int .u8 sg, .int .i64 sh, .int .i64 sz, .int .i64 lo, .int .i64 hi, .bool tx, .int .u8 fn] 59)) := (hb2.block _ (ltOf M1.out)).trans M1.out
    clear hb2 hpv)
  all_goals have e0 := cellOf (j := 0) K1.out rfl
  all_goals have e1 := cellOf (j := 1) K1.out rfl
  all_goals have e2 := cellOf (j := 2) K1.out rfl
  all_goals have e3 := cellOf (j := 3) K1.out rfl
  all_goals have e4 := cellOf (j := 4) K1.out rfl
  all_goals have e5 := cellOf (j := 5) K1.out rfl
  all_goals have e6 := cellOf (j := 6) K1.out rfl
  all_goals go_wp2_with (refine wpList_store_row rfl 62 _ _ rfl w.heap.size #[.int .u8 sg, .int .i64 sh, .int .i64 sz, .int .i64 lo, .int .i64 hi, .bool tx, .int .u8 fn, .slice ra rm rc] rfl rfl 62 _ K0.out Tryd.size62 rfl (one_ty _ _ _ _ _ _ _ _ _ _) ?_)
  all_goals have HQ := setRow_heap _ _ _ #[.int .u8 sg, .int .i64 sh, .int .i64 sz, .int .i64 lo, .int .i64 hi, .bool tx, .int .u8 fn, .slice ra rm rc] _ _ K0.out
  all_goals have c0 := cellOf (j := 0) HQ rfl
  all_goals have c1 := cellOf (j := 1) HQ rfl
  all_goals have c2 := cellOf (j := 2) HQ rfl
  all_goals have c3 := cellOf (j := 3) HQ rfl
  all_goals have c4 := cellOf (j := 4) HQ rfl
  all_goals have c5 := cellOf (j := 5) HQ rfl
  all_goals have c6 := cellOf (j := 6) HQ rfl
  all_goals have c7 := cellOf (j := 7) HQ rfl
  all_goals refine bodyPost_ret (v := .tuple #[tyv sg sh sz lo hi tx fn (.slice ra rm rc), .string rr, .bool ok]) (by simp [results, Tryd.results31, go_sem, c0, c1, c2, c3, c4, c5, c6, c7]) rfl ⟨⟨_, w2, ra, rm, rc, rr, ok, rfl, HPV.out, by show w.heap.size < W.heap.size; exact ltOf M0.out, by simp, fun b hb => setRow_other _ _ _ _ (by omega)⟩, below_setRow HB2.out (Nat.le_refl _) _⟩
end Go.Proofs.YtbnoghkijgmcgaaDoor
