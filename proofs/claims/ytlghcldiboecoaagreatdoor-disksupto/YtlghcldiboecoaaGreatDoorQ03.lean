/- Disks: the document's: a step, a file, the files but one, a file laid. -/
import Derived.Test.YtlghcldiboecoaaGreatDoorQ02
set_option linter.unusedVariables false
set_option linter.unusedSimpArgs false
namespace Go.Proofs.YtlghcldiboecoaaGreatDoor
open Go.RowKit

theorem rstep_any (w : World) (RB : Nat) (fv : Value) (left : Int) (hb : w.heap[RB]? = some (.cells #[fv, .int .i64 left] 89)) (h0 : -1 ≤ left) (h1 : left ≤ 9223372036854775807) :
    Calls Tryz.prog 62 #[.pointer (some ⟨RB, 0, none⟩)] w fun e w' => e = .returned (.bool (decide (left ≠ 0))) ∧ w'.heap[RB]? = some (.cells #[fv, .int .i64 (dec left)] 89) ∧ w.grownBy w' (some RB) := by
  have c1 := cellOf (j := 1) hb rfl
  have z1 := frozen_of_row w RB 1 _ 89 hb
  have HB := hid hb
  have HS := hid (heap_setCell_same w RB 1 _ 89 (.int .i64 (left - 1)) hb)
  have HG := hid (gr_set (w := w) (B := RB) (j := 1) (.int .i64 (left - 1)))
  clear hb
  by_cases hl : left = 0
  · subst hl
    go_enter Tryz.func62, Tryz.ntmps62
    go_wp2
    all_goals go_ret
    all_goals exact ⟨rfl, by simpa [dec] using HB.out, gr_below (Below.refl _ _)⟩
  · by_cases hp : left > 0
    · have hw : IntKind.i64.wrap (left - 1) = left - 1 := by rw [IntKind.wrap_i64]; omega
      go_enter Tryz.func62, Tryz.ntmps62
      go_wp2
      all_goals go_ret
      all_goals exact ⟨by simp [hl], by have := HS.out; simpa [dec, show (0 : Int) < left from hp] using this, HG.out⟩
    · go_enter Tryz.func62, Tryz.ntmps62
      go_wp2
      all_goals go_ret
      all_goals exact ⟨by first | (simp [hl]; done) | simp, by have := HB.out; simpa [dec, show ¬ (0 : Int) < left by omega] using this, gr_below (Below.refl _ _)⟩

set_option maxRecDepth 8000 in
set_option maxHeartbeats 4000000 in
theorem rwithout_any (w : World) (RB : Nat) (fa : Option Addr) (fc : Nat) (left : Int) (L : List Fl) (n : ByteArray) (hb : w.heap[RB]? = some (.cells #[.slice fa L.length fc, .int .i64 left] 89)) (hrow : w.ownsRow 0 93 3 (.slice fa L.length fc) L.length (fcells L)) (hL : L.length ≤ 100000000) :
    Calls Tryz.prog 65 #[.pointer (some ⟨RB, 0, none⟩), .string n] w fun e w' => ∃ va vc, e = .returned (.slice va (wo L n).length vc) ∧ w'.ownsRow w.heap.size 93 3 (.slice va (wo L n).length vc) (wo L n).length (fcells (wo L n)) ∧ Below w.heap.size w w' := by
  have c0 := cellOf (j := 0) hb rfl
  have hRl := ltOf hb
  have HROW := hid hrow
  clear hb hrow
  obtain ⟨i0, hi0, hz0, hz1, hz2⟩ := info_parts Tryz.info93
  go_enter Tryz.func65, Tryz.ntmps65
  go_wp2
  go_loopw [5, 6] (fun v k wr => ∃ (i : Nat) (va : Option Addr) (vc : Nat), v = .slice va (wo (L.take i) n).length vc ∧ k = .int .i64 i ∧ i ≤ L.length ∧ Hid (Below w.heap.size w wr) ∧ Hid (wr.ownsRow w.heap.size 93 3 (.slice va (wo (L.take i) n).length vc) (wo (L.take i) n).length (fcells (wo (L.take i) n)))) (fun _ k _ => L.length - (intOf k).toNat)
  case atStart => exact ⟨0, none, 0, rfl, rfl, Nat.zero_le _, Below.refl _ _, World.ownsRow_nil _ _ _ _⟩
  case round =>
    obtain ⟨i, va, vc, rfl, rfl, hi, HB, HV⟩ := hrel
    have c1 := (HB.out.cell (p := ⟨RB, 0, none⟩) hRl).trans c0
    by_cases hlt : i < L.length
    · have hltz : (i : Int) < (L.length : Int) := by omega
      obtain ⟨f, hf⟩ : ∃ f, L[i]? = some f := ⟨_, List.getElem?_eq_getElem hlt⟩
      obtain ⟨g, hfa, hfc, hgw, _⟩ := row_at HROW.out (by omega)
      subst hfa
      obtain ⟨q0, q1, q2⟩ := cells3_of HROW.out hf
      have f0 := (HB.out.cell (p := ⟨g, i * 3, none⟩) hgw).trans q0
      have f1 := (HB.out.cell (p := ⟨g, i * 3 + 1, none⟩) hgw).trans q1
      have f2 := (HB.out.cell (p := ⟨g, i * 3 + 2, none⟩) hgw).trans q2
      clear q0 q1 q2
      have hwl : (wo (L.take i) n).length ≤ L.length := Nat.le_trans (List.length_filter_le _ _) (by rw [List.length_take]; omega)
      have HT := hid (wo_take_succ (n := n) hf)
      by_cases hn : f.n = n
      · have hq := str_eq hn
        have HT1 : Hid (wo (L.take (i + 1)) n = wo (L.take i) n) := by show _ = _; rw [HT.out, if_neg (by simp [hn])]
        clear hn HT
        go_wp2
        all_goals go_roundw
        all_goals try (case rel => exact ⟨i + 1, va, vc, by rw [HT1.out], by go_num, by omega, HB, by show World.ownsRow _ _ _ _ _ _ _; rw [HT1.out]; exact HV.out⟩)
        all_goals try (case measure => simp [intOf]; omega)
      · have hq := str_ne hn
        have HT1 : Hid (wo (L.take (i + 1)) n = wo (L.take i) n ++ [f]) := by show _ = _; rw [HT.out, if_pos (by simp [hn])]
        have HB2 := hid (HB.out.trans ((below1 wr (.cells #[.string f.n, .string f.d, .int .i64 f.s] 93)).mono HB.out.size))
        have HV2 := hid (HV.out.alloc (.cells #[.string f.n, .string f.d, .int .i64 f.s] 93))
        have HN2 := hid (heap_alloc_new wr (.cells #[.string f.n, .string f.d, .int .i64 f.s] 93))
        go_wp2_with (at_builtin; refine wpList_append_keep _ rfl _ _ 87 rfl w.heap.size 93 i0 (.agg #[.string ⟨#[]⟩, .string ⟨#[]⟩, .int .i64 0]) 3 40 Tryz.underlying87 hi0 hz0 hz1 hz2 rfl (by decide) _ _ (fcells (wo (L.take i) n)) rfl HV2.out ⟨wr.heap.size, 0, none⟩ 1 1 [.string f.n, .string f.d, .int .i64 f.s] rfl rfl (World.news_of_block HN2.out) (by intro u hu; simp at hu; rcases hu with rfl | rfl | rfl <;> rfl) (by omega) (by unfold maxLen; omega) (by omega) HB2.out.size ?_)
        intro V w2 hr
        have HBX := hid (app_below hr HV2.out HB2.out HB2.out.size)
        obtain ⟨va', vc', hV⟩ := own_shapeZ hr.1
        subst hV
        have HO := hid hr.1
        clear hr HN2 HV2 HB2
        go_wp2
        all_goals go_roundw
        all_goals try (case rel => exact ⟨i + 1, va', vc', by rw [HT1.out, List.length_append]; rfl, by go_num, by omega, HBX, by show World.ownsRow _ _ _ _ _ _ _; rw [HT1.out, List.length_append, fcells_add]; exact HO.out⟩)
        all_goals try (case measure => simp [intOf]; omega)
    · have hltz : ¬ (i : Int) < (L.length : Int) := by omega
      have hie : i = L.length := by omega
      subst hie
      have HT : Hid (L.take L.length = L) := by show _ = _; simp
      go_wp2
      all_goals go_ret
      all_goals (rw [HT.out] at HV; exact ⟨va, vc, rfl, HV.out, HB.out⟩)

set_option maxRecDepth 8000 in
set_option maxHeartbeats 4000000 in
theorem rput_any (w : World) (RB : Nat) (fa : Option Addr) (fc : Nat) (left : Int) (L : List Fl) (f : Fl) (hb : w.heap[RB]? = some (.cells #[.slice fa L.length fc, .int .i64 left] 89)) (hrow : w.ownsRow 0 93 3 (.slice fa L.length fc) L.length (fcells L)) (hL : L.length ≤ 100000000) :
    Calls Tryz.prog 63 #[.pointer (some ⟨RB, 0, none⟩), .agg #[.string f.n, .string f.d, .int .i64 f.s]] w fun e w' => e = .returned (.tuple #[]) ∧ ∃ va vc, w'.heap[RB]? = some (.cells #[.slice va (wo L f.n ++ [f]).length vc, .int .i64 left] 89) ∧ w'.ownsRow w.heap.size 93 3 (.slice va (wo L f.n ++ [f]).length vc) (wo L f.n ++ [f]).length (fcells (wo L f.n ++ [f])) ∧ w.grownBy w' (some RB) := by
  have hRl := ltOf hb
  obtain ⟨i0, hi0, hz0, hz1, hz2⟩ := info_parts Tryz.info93
  have HB1 := hid (below1 w (.cells #[.string f.n, .string f.d, .int .i64 f.s] 93))
  have HN1 := hid (heap_alloc_new w (.cells #[.string f.n, .string f.d, .int .i64 f.s] 93))
  have H65 := hid (rwithout_any (w.alloc (.cells #[.string f.n, .string f.d, .int .i64 f.s] 93)) RB fa fc left L f.n ((HB1.out.block RB hRl).trans hb) (ownsRow_below hrow HB1.out) hL)
  have HB := hid hb
  have HWL : Hid ((wo L f.n).length ≤ L.length) := List.length_filter_le _ _
  have d0 := cellOf (j := 0) HN1.out rfl
  clear hb hrow
  go_enter Tryz.func63, Tryz.ntmps63
  generalize hW1 : w.alloc (.cells #[.string f.n, .string f.d, .int .i64 f.s] 93) = W1 at *
  go_wp2_with (first
    | (go_at_call 65; refine H65.out.mono ?_; rintro e w2 ⟨va, vc, rfl, ho, hb2⟩
       have HN2 := hid ((hb2.block _ (ltOf HN1.out)).trans HN1.out)
       have e0 := cellOf (j := 0) HN2.out rfl
       have e1 := cellOf (j := 1) HN2.out rfl
       have e2 := cellOf (j := 2) HN2.out rfl
       have HO := hid (ho.alloc (.cells #[.string f.n, .string f.d, .int .i64 f.s] 93))
       have HB2 := hid (HB1.out.trans ((hb2.mono (by have := HB1.out.size; omega)).trans ((below1 w2 (.cells #[.string f.n, .string f.d, .int .i64 f.s] 93)).mono (by have := HB1.out.size; have := hb2.size; omega))))
       have HNN := hid (heap_alloc_new w2 (.cells #[.string f.n, .string f.d, .int .i64 f.s] 93))
       have HW1 : Hid (w.heap.size ≤ W1.heap.size) := HB1.out.size
       have HS2 : Hid (W1.heap.size ≤ w2.heap.size) := hb2.size
       clear ho hb2)
    | (at_builtin; refine wpList_append_keep _ rfl _ _ 87 rfl W1.heap.size 93 i0 (.agg #[.string ⟨#[]⟩, .string ⟨#[]⟩, .int .i64 0]) 3 40 Tryz.underlying87 hi0 hz0 hz1 hz2 rfl (by decide) _ _ (fcells (wo L f.n)) rfl HO.out ⟨w2.heap.size, 0, none⟩ 1 1 [.string f.n, .string f.d, .int .i64 f.s] rfl rfl (World.news_of_block HNN.out) (by intro u hu; simp at hu; rcases hu with rfl | rfl | rfl <;> rfl) (by omega) (by have := HWL.out; unfold maxLen; omega) (by have := HWL.out; omega) ?hLs ?_))
  case hLs =>
    have := HS2.out
    show W1.heap.size ≤ (w2.heap.push _).size
    rw [Array.size_push]
    omega
  intro V w3 hr
  obtain ⟨va', vc', hV⟩ := own_shapeZ hr.1
  subst hV
  have HB3 : Hid (Below w.heap.size w w3) := by
    have h1 := HW1.out
    have h2 := HB2.out.size
    rcases hr.2.2 with ⟨_, hg⟩ | ⟨_, hg⟩
    · exact HB2.out.trans ⟨hg.os, hg.tape, hg.output, hg.size, fun i hi => hg.block i (by omega) (fun e => by have := (HO.out.lt i e.symm).1; omega)⟩
    · exact HB2.out.trans (hg.mono h2)
  have HR3 := hid ((HB3.out.block RB hRl).trans HB.out)
  have c3 := cellOf (j := 0) HR3.out rfl
  have z3 := frozen_of_row w3 RB 0 _ 89 HR3.out
  have HO3 := hid hr.1
  clear hr HO HNN HB2 HN2 e0 e1 e2
  have HFIN : Hid ((w3.setCell ⟨RB, 0, none⟩ (.slice va' ((wo L f.n).length + 1) vc')).ownsRow w.heap.size 93 3 (.slice va' ((wo L f.n).length + 1) vc') ((wo L f.n).length + 1) (fcells (wo L f.n ++ [f]))) := by
    show World.ownsRow _ _ _ _ _ _ _
    rw [fcells_add]
    have h := HO3.out
    refine own_setZ ⟨h.1, h.2.imp id (fun ⟨g, cap, cur, h1, h2, h3⟩ => ⟨g, cap, cur, h1, by have := HW1.out; omega, h3⟩)⟩ (fun e => ?_) _
    have := (h.lt RB e).1
    have := HW1.out
    omega
  have HFB := hid (heap_setCell_same w3 RB 0 _ 89 (.slice va' ((wo L f.n).length + 1) vc') HR3.out)
  have HFG : Hid (w.grownBy (w3.setCell ⟨RB, 0, none⟩ (.slice va' ((wo L f.n).length + 1) vc')) (some RB)) := gr_trans (gr_below HB3.out) (gr_set _)
  clear HO3
  go_wp2
  all_goals go_end0
  all_goals exact ⟨rfl, va', vc', by rw [List.length_append]; exact HFB.out, by rw [List.length_append]; exact HFIN.out, HFG.out⟩

end Go.Proofs.YtlghcldiboecoaaGreatDoor

/- An owned row whose block stands. -/
namespace Go.Proofs.YtlghcldiboecoaaGreatDoor
variable {W W' : World} {B : Nat}

theorem own_sameS {e : TypeId} {size n : Nat} {v : Value} {xs : List Value} (h : W.ownsRow B e size v n xs) (hs : ∀ g cs, v.ownBlock = some g → W.heap[g]? = some (.cells cs e) → W'.heap[g]? = W.heap[g]?) : W'.ownsRow B e size v n xs := by
  refine ⟨h.1, ?_⟩
  rcases h.2 with h0 | ⟨g, cap, cur, hv, k1, k2, k3⟩
  · exact .inl h0
  · exact .inr ⟨g, cap, cur, hv, k1, (hs g cur (by rw [hv]; rfl) k2).trans k2, k3⟩

end Go.Proofs.YtlghcldiboecoaaGreatDoor

/- Disks: the document's: a file of a name; Append, Sync, Rename, Remove, Stop. -/
namespace Go.Proofs.YtlghcldiboecoaaGreatDoor
open Go.RowKit

/-- A disk in memory: bt, rt: its type, that of its files. -/
structure St (bt rt : TypeId) (w : World) (K : Nat) (left : Int) (L : List Fl) (fa : Option Addr) (fc : Nat) : Prop where
  blk : w.heap[K]? = some (.cells #[.slice fa L.length fc, .int .i64 left] bt)
  row : w.ownsRow 0 rt 3 (.slice fa L.length fc) L.length (fcells L)

/-- What a call changes: the disk's block, its files' row; where the row lies then. -/
structure Go3 (w w' : World) (K : Nat) (o o' : Option Nat) : Prop where
  size : w.heap.size ≤ w'.heap.size
  same : ∀ i, i < w.heap.size → i ≠ K → o ≠ some i → w'.heap[i]? = w.heap[i]?
  own : ∀ g, o' = some g → o = some g ∨ w.heap.size ≤ g

theorem Go3.trans {w w' w'' : World} {K : Nat} {o o' o'' : Option Nat} (h : Go3 w w' K o o') (h' : Go3 w' w'' K o' o'') : Go3 w w'' K o o'' :=
  ⟨Nat.le_trans h.size h'.size, fun i hi hk ho => (h'.same i (Nat.lt_of_lt_of_le hi h.size) hk (fun e => by
    rcases h.own i e with h1 | h1
    · exact ho h1
    · omega)).trans (h.same i hi hk ho), fun g hg => by
    rcases h'.own g hg with h1 | h1
    · exact h.own g h1
    · exact .inr (Nat.le_trans h.size h1)⟩

theorem Go3.grown {w w' : World} {K : Nat} {o : Option Nat} (h : w.grownBy w' (some K)) : Go3 w w' K o o := ⟨h.size, fun i hi hk _ => h.block i hi (fun e => hk (by cases e; rfl)), fun _ h => .inl h⟩
theorem Go3.below {w w' : World} {K : Nat} {o : Option Nat} (h : Below w.heap.size w w') : Go3 w w' K o o := ⟨h.size, fun i hi _ _ => h.block i hi, fun _ h => .inl h⟩

/-- A file of that name, or none. -/
def AtN (L : List Fl) (n : ByteArray) : Option Fl → Prop
  | some f => f ∈ L ∧ f.n = n
  | none => ∀ f, f ∈ L → f.n ≠ n

def fl0 : Fl := ⟨⟨#[]⟩, ⟨#[]⟩, 0⟩
abbrev fagg (f : Fl) : Value := .agg #[.string f.n, .string f.d, .int .i64 f.s]

variable {bt rt : TypeId} {w w' : World} {K : Nat} {lf : Int} {L : List Fl} {fa : Option Addr} {fc : Nat}

theorem St.below (h : St bt rt w K lf L fa fc) (hb : Below w.heap.size w w') : St bt rt w' K lf L fa fc := ⟨(hb.block _ (ltOf h.blk)).trans h.blk, ownsRow_below h.row hb⟩
theorem St.lefts (h : St bt rt w K lf L fa fc) {l' : Int} (hb : w'.heap[K]? = some (.cells #[.slice fa L.length fc, .int .i64 l'] bt)) (hg : w.grownBy w' (some K)) (ht : rt ≠ bt) : St bt rt w' K l' L fa fc :=
  ⟨hb, own_sameS h.row (fun g cs hg' hc => hg.block g (ltOf hc) (fun e => by cases e; rw [h.blk] at hc; cases hc; exact ht rfl))⟩

set_option maxRecDepth 8000 in
set_option maxHeartbeats 4000000 in
theorem rfile_any (w : World) (RB : Nat) (left : Int) (L : List Fl) (fa : Option Addr) (fc : Nat) (n : ByteArray) (h : St 89 93 w RB left L fa fc) (hL : L.length ≤ 100000000) :
    Calls Tryz.prog 39 #[.pointer (some ⟨RB, 0, none⟩), .string n] w fun e w' => ∃ o, e = .returned (.tuple #[fagg (o.getD fl0), .bool o.isSome]) ∧ AtN L n o ∧ Below w.heap.size w w' := by
  have c0 := cellOf (j := 0) h.blk rfl
  have hRl := ltOf h.blk
  have HROW := hid h.row
  clear h
  have HB0 := hid (below1 w (.cells #[.string ⟨#[]⟩, .string ⟨#[]⟩, .int .i64 0] 93))
  have HN0 := hid (heap_alloc_new w (.cells #[.string ⟨#[]⟩, .string ⟨#[]⟩, .int .i64 0] 93))
  go_enter Tryz.func39, Tryz.ntmps39
  go_wp2
  have c1 := (HB0.out.cell (p := ⟨RB, 0, none⟩) hRl).trans c0
  generalize w.alloc (.cells #[.string ⟨#[]⟩, .string ⟨#[]⟩, .int .i64 0] 93) = W0 at *
  clear c0
  have k0 := cellOf (j := 0) HN0.out rfl
  have z0 := frozen_of_row W0 w.heap.size 0 _ 93 HN0.out
  have HF : Hid (∀ f : Fl, ∃ W3, ((W0.setCell ⟨w.heap.size, 0, none⟩ (.string f.n)).setCell ⟨w.heap.size, 1, none⟩ (.string f.d)).setCell ⟨w.heap.size, 2, none⟩ (.int .i64 f.s) = W3 ∧ W3.heap[w.heap.size]? = some (.cells #[.string f.n, .string f.d, .int .i64 f.s] 93) ∧ Below w.heap.size w W3 ∧
      (∃ x, (W0.setCell ⟨w.heap.size, 0, none⟩ (.string f.n)).cell? ⟨w.heap.size, 1, none⟩ = some x) ∧ (W0.setCell ⟨w.heap.size, 0, none⟩ (.string f.n)).frozen? ⟨w.heap.size, 1, none⟩ = false ∧
      (∃ x, ((W0.setCell ⟨w.heap.size, 0, none⟩ (.string f.n)).setCell ⟨w.heap.size, 1, none⟩ (.string f.d)).cell? ⟨w.heap.size, 2, none⟩ = some x) ∧ ((W0.setCell ⟨w.heap.size, 0, none⟩ (.string f.n)).setCell ⟨w.heap.size, 1, none⟩ (.string f.d)).frozen? ⟨w.heap.size, 2, none⟩ = false) := fun f => by
    have h1 := heap_setCell_same W0 w.heap.size 0 _ 93 (.string f.n) HN0.out
    have h2 := heap_setCell_same _ w.heap.size 1 _ 93 (.string f.d) h1
    have h3 := heap_setCell_same _ w.heap.size 2 _ 93 (.int .i64 f.s) h2
    refine ⟨_, rfl, h3, ((HB0.out.trans (below_setX (Nat.le_refl _))).trans (below_setX (Nat.le_refl _))).trans (below_setX (Nat.le_refl _)), ⟨_, cellOf h1 rfl⟩, frozen_of_row _ _ _ _ _ h1, ⟨_, cellOf h2 rfl⟩, frozen_of_row _ _ _ _ _ h2⟩
  go_loopw [6] (fun k wr => ∃ i : Nat, k = .int .i64 i ∧ i ≤ L.length ∧ wr = W0 ∧ Hid (∀ j f, j < i → L[j]? = some f → f.n ≠ n)) (fun k _ => L.length - (intOf k).toNat)
  case atStart => exact ⟨0, rfl, Nat.zero_le _, rfl, fun j f hj => by omega⟩
  case round =>
    obtain ⟨i, rfl, hi, hwr, HN⟩ := hrel
    subst hwr
    by_cases hlt : i < L.length
    · have hltz : (i : Int) < (L.length : Int) := by omega
      obtain ⟨f, hf⟩ : ∃ f, L[i]? = some f := ⟨_, List.getElem?_eq_getElem hlt⟩
      obtain ⟨g, hfa, hfc, hgw, _⟩ := row_at HROW.out (by omega)
      subst hfa
      obtain ⟨q0, q1, q2⟩ := cells3_of HROW.out hf
      have f0 := (HB0.out.cell (p := ⟨g, i * 3, none⟩) hgw).trans q0
      have f1 := (HB0.out.cell (p := ⟨g, i * 3 + 1, none⟩) hgw).trans q1
      have f2 := (HB0.out.cell (p := ⟨g, i * 3 + 2, none⟩) hgw).trans q2
      clear q0 q1 q2
      by_cases hn : f.n = n
      · have hq := str_eq hn
        have HNN := hid hn
        obtain ⟨W3, hW3, hb3, hbl, ⟨x1, k1⟩, z1, ⟨x2, k2⟩, z2⟩ := HF.out f
        have HB3 := hid hbl
        have HBB := hid hb3
        clear hn hbl hb3 HF
        go_wp2
        have m0 := cellOf (j := 0) HBB.out rfl
        have m1 := cellOf (j := 1) HBB.out rfl
        have m2 := cellOf (j := 2) HBB.out rfl
        exact bodyPost_ret (v := .tuple #[fagg f, .bool true]) (by simp [results, Tryz.results39, go_sem, m0, m1, m2]) rfl ⟨some f, rfl, ⟨List.mem_of_getElem? hf, HNN.out⟩, HB3.out⟩
      · have hq := str_ne hn
        go_wp2
        all_goals go_roundw
        all_goals try (case rel => exact ⟨i + 1, by go_num, by omega, by first | rfl | trivial, fun j f' hj hf' => by
          rcases Nat.lt_succ_iff_lt_or_eq.1 hj with h | h
          · exact HN.out j f' h hf'
          · subst h; rw [hf] at hf'; cases hf'; exact hn⟩)
        all_goals try (case measure => simp [intOf]; omega)
    · have hltz : ¬ (i : Int) < (L.length : Int) := by omega
      obtain ⟨W3, hW3, hb3, hbl, ⟨x1, k1⟩, z1, ⟨x2, k2⟩, z2⟩ := HF.out fl0
      have HB3 := hid hbl
      have HBB := hid hb3
      clear hbl hb3 HF
      change ((wr.setCell ⟨w.heap.size, 0, none⟩ (.string ⟨#[]⟩)).setCell ⟨w.heap.size, 1, none⟩ (.string ⟨#[]⟩)).setCell ⟨w.heap.size, 2, none⟩ (.int .i64 0) = W3 at hW3
      simp only [fl0] at k1 z1 k2 z2
      go_wp2
      have m0 := cellOf (j := 0) HBB.out rfl
      have m1 := cellOf (j := 1) HBB.out rfl
      have m2 := cellOf (j := 2) HBB.out rfl
      exact bodyPost_ret (v := .tuple #[fagg fl0, .bool false]) (by simp [results, Tryz.results39, go_sem, m0, m1, m2]) rfl ⟨none, rfl, (fun f hf => by
        obtain ⟨j, hj, rfl⟩ := List.getElem_of_mem hf
        exact HN.out j _ (by omega) (List.getElem?_eq_getElem hj)), HB3.out⟩

end Go.Proofs.YtlghcldiboecoaaGreatDoor

/- Disks: the document's Append, Sync, Rename, Remove, Stop. -/
namespace Go.Proofs.YtlghcldiboecoaaGreatDoor
open Go.RowKit

abbrev ownA (fa : Option Addr) : Option Nat := (Value.slice fa 0 0).ownBlock
theorem own_A (fa : Option Addr) (n c : Nat) : (Value.slice fa n c).ownBlock = ownA fa := by cases fa <;> rfl

/-- What a call of a disk leaves. -/
structure Dgo (bt rt : TypeId) (w w' : World) (K : Nat) (left' : Int) (fa : Option Addr) (L' : List Fl) : Prop where
  st : ∃ fa' fc', St bt rt w' K left' L' fa' fc' ∧ Go3 w w' K (ownA fa) (ownA fa')

theorem Dgo.same {bt rt : TypeId} {w w' : World} {K : Nat} {left' : Int} {L : List Fl} {fa : Option Addr} {fc : Nat} (h : St bt rt w' K left' L fa fc) (hg : Go3 w w' K (ownA fa) (ownA fa)) : Dgo bt rt w w' K left' fa L := ⟨fa, fc, h, hg⟩
/-- A row of its own, behind. -/
theorem Dgo.new {bt rt : TypeId} {w w1 w' : World} {K : Nat} {left' : Int} {fa va : Option Addr} {vc : Nat} {L' : List Fl} (hg1 : Go3 w w1 K (ownA fa) (ownA fa)) (hb : w'.heap[K]? = some (.cells #[.slice va L'.length vc, .int .i64 left'] bt)) (hr : w'.ownsRow w1.heap.size rt 3 (.slice va L'.length vc) L'.length (fcells L')) (hg : w1.grownBy w' (some K)) : Dgo bt rt w w' K left' fa L' := by
  refine ⟨va, vc, ⟨hb, hr.1, hr.2.imp id (fun ⟨g, cap, cur, h1, h2, h3⟩ => ⟨g, cap, cur, h1, Nat.zero_le _, h3⟩)⟩, ⟨Nat.le_trans hg1.size hg.size, fun i hi hk ho => (hg.block i (Nat.lt_of_lt_of_le hi hg1.size) (fun e => hk (by cases e; rfl))).trans (hg1.same i hi hk ho), fun g hgo => .inr ?_⟩⟩
  have := (hr.lt g ((own_A va _ _).trans hgo)).1
  have := hg1.size
  omega

theorem AtN.size {L : List Fl} {n : ByteArray} {o : Option Fl} {k m : Nat} (h : AtN L n o) (hd : ∀ f, f ∈ L → f.d.size + k ≤ m) (h0 : k ≤ m) : (o.getD fl0).d.size + k ≤ m := by
  cases o with
  | none => simpa [fl0, ByteArray.size] using h0
  | some f => exact hd f h.1

set_option maxRecDepth 8000 in
set_option maxHeartbeats 4000000 in
theorem rappend_any (w : World) (RB : Nat) (left : Int) (L : List Fl) (fa : Option Addr) (fc : Nat) (n d : ByteArray) (h : St 89 93 w RB left L fa fc) (hl0 : -1 ≤ left) (hl1 : left ≤ 9223372036854775807) (hL : L.length ≤ 10000000) (hd : ∀ f, f ∈ L → f.d.size + d.size ≤ 1099511627776) (hd0 : d.size ≤ 1099511627776) :
    Calls Tryz.prog 29 #[.pointer (some ⟨RB, 0, none⟩), .string n, .string d] w fun e w' => e = .returned (.bool (decide (left ≠ 0))) ∧ ∃ L', Dgo 89 93 w w' RB (dec left) fa L' ∧ ((left = 0 ∧ L' = L) ∨ (left ≠ 0 ∧ ∃ o, AtN L n o ∧ L' = wo L n ++ [⟨n, (o.getD fl0).d ++ d, (o.getD fl0).s⟩])) := by
  have h62 := rstep_any w RB _ left h.blk hl0 hl1
  have HST := hid h
  have HD := hid hd
  clear h hd
  by_cases hl : left = 0
  · have hdl : decide (left ≠ 0) = false := by simp [hl]
    rw [hdl] at h62 ⊢
    have H62 := hid h62
    clear h62
    go_enter Tryz.func29, Tryz.ntmps29
    go_wp2_with (go_at_call 62; refine H62.out.mono ?_; rintro e w1 ⟨rfl, hb1, hg1⟩; have HS1 := hid (HST.out.lefts hb1 hg1 (by decide)); have HG1 := hid hg1; clear hb1 hg1)
    all_goals go_ret
    all_goals exact ⟨rfl, L, .same HS1.out (Go3.grown HG1.out), .inl ⟨hl, rfl⟩⟩
  · have hdl : decide (left ≠ 0) = true := by simp [hl]
    rw [hdl] at h62 ⊢
    have H62 := hid h62
    have HL0 := hid hl
    clear h62 hl hdl
    go_enter Tryz.func29, Tryz.ntmps29
    go_wp2_with (first
      | (go_at_call 62; refine H62.out.mono ?_; rintro e w1 ⟨rfl, hb1, hg1⟩; have HS1 := hid (HST.out.lefts hb1 hg1 (by decide)); have HG1 := hid hg1; have H39 := hid (rfile_any w1 RB (dec left) L fa fc n HS1.out (by omega)); clear hb1 hg1)
      | (go_at_call 39; refine H39.out.mono ?_; rintro e w2 ⟨o, he, hat, hb2⟩
         have HAT := hid hat
         have hsz := hat.size HD.out hd0
         obtain ⟨fo, hfo⟩ : ∃ fo, o.getD fl0 = fo := ⟨_, rfl⟩
         have HFO := hid hfo
         rw [hfo] at hsz he
         subst he
         have HB2 := hid hb2
         have HB3 := hid (hb2.trans ((below1 w2 (.cells #[.string fo.n, .string fo.d, .int .i64 fo.s] 93)).mono hb2.size))
         have HN3 := hid (heap_alloc_new w2 (.cells #[.string fo.n, .string fo.d, .int .i64 fo.s] 93))
         have e1 := cellOf (j := 1) HN3.out rfl
         have e2 := cellOf (j := 2) HN3.out rfl
         have HS3 := hid (HS1.out.below HB3.out)
         have H63 := hid (rput_any (w2.alloc (.cells #[.string fo.n, .string fo.d, .int .i64 fo.s] 93)) RB fa fc (dec left) L ⟨n, fo.d ++ d, fo.s⟩ HS3.out.blk HS3.out.row (by omega))
         clear hat hb2 hfo)
      | (go_at_call 63; refine H63.out.mono ?_; rintro e w4 ⟨rfl, va, vc, hb4, hr4, hg4⟩; have HR4 := hid hr4; have HB4 := hid hb4; have HG4 := hid hg4; clear hb4 hr4 hg4))
    all_goals go_ret
    all_goals exact ⟨rfl, wo L n ++ [⟨n, fo.d ++ d, fo.s⟩], .new ((Go3.grown HG1.out).trans (Go3.below HB3.out)) HB4.out HR4.out HG4.out, .inr ⟨HL0.out, o, HAT.out, by rw [HFO.out]⟩⟩

set_option maxRecDepth 8000 in
set_option maxHeartbeats 4000000 in
theorem rsync_any (w : World) (RB : Nat) (left : Int) (L : List Fl) (fa : Option Addr) (fc : Nat) (n : ByteArray) (h : St 89 93 w RB left L fa fc) (hl0 : -1 ≤ left) (hl1 : left ≤ 9223372036854775807) (hL : L.length ≤ 10000000) :
    Calls Tryz.prog 31 #[.pointer (some ⟨RB, 0, none⟩), .string n] w fun e w' => e = .returned (.bool (decide (left ≠ 0))) ∧ ∃ L', Dgo 89 93 w w' RB (dec left) fa L' ∧ ((left = 0 ∧ L' = L) ∨ (left ≠ 0 ∧ ∃ o, AtN L n o ∧ ((o = none ∧ L' = L) ∨ ∃ f, o = some f ∧ L' = wo L n ++ [⟨n, f.d, f.d.size⟩]))) := by
  have h62 := rstep_any w RB _ left h.blk hl0 hl1
  have HST := hid h
  clear h
  by_cases hl : left = 0
  · have hdl : decide (left ≠ 0) = false := by simp [hl]
    rw [hdl] at h62 ⊢
    have H62 := hid h62
    clear h62
    go_enter Tryz.func31, Tryz.ntmps31
    go_wp2_with (first
      | (go_at_call 62; refine H62.out.mono ?_; rintro e w1 ⟨rfl, hb1, hg1⟩; have HS1 := hid (HST.out.lefts hb1 hg1 (by decide)); have HG1 := hid hg1; have H39 := hid (rfile_any w1 RB (dec left) L fa fc n HS1.out (by omega)); clear hb1 hg1)
      | (go_at_call 39; refine H39.out.mono ?_; rintro e w2 ⟨o, he, hat, hb2⟩
         obtain ⟨fo, hfo⟩ : ∃ fo, o.getD fl0 = fo := ⟨_, rfl⟩
         rw [hfo] at he
         subst he
         have HB3 := hid (hb2.trans ((below1 w2 (.cells #[.string fo.n, .string fo.d, .int .i64 fo.s] 93)).mono hb2.size))
         clear hat hb2 hfo))
    all_goals go_ret
    all_goals exact ⟨rfl, L, .same (HS1.out.below HB3.out) ((Go3.grown HG1.out).trans (Go3.below HB3.out)), .inl ⟨hl, rfl⟩⟩
  · have hdl : decide (left ≠ 0) = true := by simp [hl]
    rw [hdl] at h62 ⊢
    have H62 := hid h62
    have HL0 := hid hl
    clear h62 hl hdl
    go_enter Tryz.func31, Tryz.ntmps31
    go_wp2_with (first
      | (go_at_call 62; refine H62.out.mono ?_; rintro e w1 ⟨rfl, hb1, hg1⟩; have HS1 := hid (HST.out.lefts hb1 hg1 (by decide)); have HG1 := hid hg1; have H39 := hid (rfile_any w1 RB (dec left) L fa fc n HS1.out (by omega)); clear hb1 hg1))
    refine H39.out.mono ?_
    rintro e w2 ⟨o, he, hat, hb2⟩
    cases o with
    | none =>
      subst he
      have HAT := hid hat
      have HB3 := hid (hb2.trans ((below1 w2 (.cells #[.string ⟨#[]⟩, .string ⟨#[]⟩, .int .i64 0] 93)).mono hb2.size))
      clear hat hb2
      simp only [Option.getD_none, Option.isSome_none, fl0]
      go_wp2
      all_goals go_ret
      all_goals exact ⟨rfl, L, .same (HS1.out.below HB3.out) ((Go3.grown HG1.out).trans (Go3.below HB3.out)), .inr ⟨HL0.out, none, HAT.out, .inl ⟨rfl, rfl⟩⟩⟩
    | some fo =>
      subst he
      have HAT := hid hat
      have HB3 := hid (hb2.trans ((below1 w2 (.cells #[.string fo.n, .string fo.d, .int .i64 fo.s] 93)).mono hb2.size))
      have HN3 := hid (heap_alloc_new w2 (.cells #[.string fo.n, .string fo.d, .int .i64 fo.s] 93))
      have e1 := cellOf (j := 1) HN3.out rfl
      have HS3 := hid (HS1.out.below HB3.out)
      have H63 := hid (rput_any (w2.alloc (.cells #[.string fo.n, .string fo.d, .int .i64 fo.s] 93)) RB fa fc (dec left) L ⟨n, fo.d, fo.d.size⟩ HS3.out.blk HS3.out.row (by omega))
      clear hat hb2
      simp only [Option.getD_some, Option.isSome_some]
      go_wp2_with (go_at_call 63; refine H63.out.mono ?_; rintro e w4 ⟨rfl, va, vc, hb4, hr4, hg4⟩; have HR4 := hid hr4; have HB4 := hid hb4; have HG4 := hid hg4; clear hb4 hr4 hg4)
      all_goals go_ret
      all_goals exact ⟨rfl, wo L n ++ [⟨n, fo.d, fo.d.size⟩], .new ((Go3.grown HG1.out).trans (Go3.below HB3.out)) HB4.out HR4.out HG4.out, .inr ⟨HL0.out, some fo, HAT.out, .inr ⟨fo, rfl, rfl⟩⟩⟩

end Go.Proofs.YtlghcldiboecoaaGreatDoor
