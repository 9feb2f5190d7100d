/- Canon's closed calls. -/
import Derived.Test.YtlghcldiboecoaaDoorODec
import Derived.Lib.ConvBytes
import Derived.Test.YtlghcldiboecoaaDoorEnc
set_option linter.unusedVariables false
namespace Go.Proofs.YtlghcldiboecoaaDoor
open Go.RowKit

theorem dec1 (valid : ByteArray → Bool) : Orch.decode valid [40, 63, 63, 41] [1, 0] = .ok (.mk 0 ByteArray.empty [.mk 1 ByteArray.empty [], .mk 0 ByteArray.empty []]) := by rfl
theorem dec2 (valid : ByteArray → Bool) : Orch.decode valid [91, 63, 93] [0, 0, 0, 1, 2] = .error 3 := by rfl
theorem dec3 (valid : ByteArray → Bool) (h : valid ⟨#[97]⟩ = true) : Orch.decode valid [116] [0, 0, 0, 1, 97] = .ok (.mk 0 ⟨#[97]⟩ []) := by
  simp [Orch.decode, Orch.parse, Orch.ptype, Orch.find, Orch.letters, Orch.take, Orch.count, Orch.uns, Orch.fits, Orch.bytesV, Orch.Ty.l, Orch.V.n, Orch.V.s, Orch.V.l, ByteArray.size, h]

end Go.Proofs.YtlghcldiboecoaaDoor

/- The walk of Canon. -/
set_option linter.unusedVariables false
namespace Go.Proofs.YtlghcldiboecoaaDoor
open Go.RowKit

theorem below_bytes (W : World) (s : ByteArray) : Below W.heap.size W (Lib.bytesWorld W 5 s) :=
  ⟨rfl, rfl, rfl, by rw [Lib.bytesWorld_size]; omega, fun k hk => Lib.bytesWorld_at_old W 5 s k hk⟩

theorem bytes_at (W : World) (s : ByteArray) : BsAt (Lib.bytesWorld W 5 s) (.slice (some ⟨W.heap.size, 0, none⟩) s.size (grownCap W s.size 0 5)) s.data.toList := by
  refine ⟨W.heap.size, 0, grownCap W s.size 0 5, by rw [Lib.size_eq], by rw [← Lib.size_eq]; exact grownCap_ge _ _ _ _, by rw [Lib.bytesWorld_size]; omega, fun i hi => ?_⟩
  rw [Nat.zero_add, Lib.bytesWorld_cell W 5 s i (by rw [Lib.size_eq]; exact hi), List.getD_eq_getElem?_getD, List.getElem?_eq_getElem hi]
  rfl

theorem lit_at {W : World} {g : Nat} {cs : List UInt8} (h : W.heap[g]? = some (.cells (bcells cs).toArray 5)) : BsAt W (.slice (some ⟨g, 0, none⟩) cs.length cs.length) cs :=
  ⟨g, 0, cs.length, rfl, Nat.le_refl _, ltOf h, fun i hi => by
    rw [Nat.zero_add]
    refine cellOf h ?_
    simp [bcells, hi]⟩

theorem conv_own {w : World} {base : Nat} {ov : Value} {b : List UInt8} (h : w.ownsRow base 5 1 ov b.length (bcells b)) : (convert 34 9 ov).run Tryd.prog w = .ok (.string ⟨b.toArray⟩) w := by
  rcases h.2 with ⟨rfl, h0⟩ | ⟨g, cap, cur, rfl, hb, hg, hn, _, hs, ht⟩
  · have : b = [] := List.length_eq_zero_iff.1 h0
    subst this
    exact run_convert_bytes_nil (P := Tryd.prog) w 34 5 Tryd.underlying34 Tryd.underlying5 0 0 9 Tryd.underlying9
  · have hstr : strOfNums (b.map fun c => (c.toNat : Int)) = (⟨b.toArray⟩ : ByteArray) := by
      unfold strOfNums
      congr 2
      rw [List.map_map]
      conv => rhs; rw [← List.map_id b]
      apply List.map_congr_left
      intro c _
      simp
    have := run_convert_bytes_arg (P := Tryd.prog) w 34 5 Tryd.underlying34 Tryd.underlying5 g 0 b.length cap (b.map fun c => (c.toNat : Int)) (by simp) (fun i hi => by
      have h1 := h.cells (g := g) rfl i (.int .u8 b[i].toNat) (by simp [bcells, hi])
      rw [Addr.add_lit, Nat.zero_add] at h1
      rw [Nat.zero_add, h1, List.getD_eq_getElem?_getD, List.getElem?_map, List.getElem?_eq_getElem hi]
      rfl) 9 Tryd.underlying9
    rw [hstr] at this
    exact this

theorem decode_err {valid : ByteArray → Bool} {s l : List UInt8} {c : Nat} (h : Orch.decode valid s l = .error c) : c = 1 ∨ c = 3 := by
  cases hp : Orch.parse s with
  | none =>
    unfold Orch.decode at h
    rw [hp] at h
    injection h with h
    omega
  | some t =>
    rw [decode_some valid hp] at h
    cases hv : vdec valid t l with
    | none => rw [hv] at h; injection h with h; omega
    | some v => rw [hv] at h; cases h

section
variable {valid : ByteArray → Bool} {Tabs : World → Prop}

theorem call1 (U : Utf valid Tabs) (W : World) (hT : Tabs W) (hL : Table W) (g0 : Nat) (h : W.heap[g0]? = some (.cells #[.int .u8 1, .int .u8 0] 5)) :
    Calls Tryd.prog 9 #[.string ⟨#[40, 63, 63, 41]⟩, .slice (some ⟨g0, 0, none⟩) 2 2] W fun e w' => (∃ g cap, e = .returned (.tuple #[vv 0 ⟨#[]⟩ (.slice (some ⟨g, 0, none⟩) 2 cap), .int .i64 0]) ∧ 2 ≤ cap ∧ g < w'.heap.size ∧ w'.cell? ⟨g, 0, none⟩ = some (.int .i64 1) ∧ w'.cell? ⟨g, 3, none⟩ = some (.int .i64 0)) ∧ Below W.heap.size W w' := by
  refine (decode_any U W hT hL ⟨#[40, 63, 63, 41]⟩ _ [1, 0] (by simp) (lit_at h)).mono ?_
  rintro e w' ⟨hr, hb⟩
  have e1 : Orch.decode valid (⟨#[40, 63, 63, 41]⟩ : ByteArray).data.toList [1, 0] = _ := dec1 valid
  rw [e1] at hr
  obtain ⟨lv, rfl, hv⟩ := hr
  refine ⟨?_, hb⟩
  obtain ⟨g, cap, x, rfl, hcap, hg, hx, hc⟩ := hv.at 0 (by decide)
  obtain ⟨g', cap', x', h2, _, _, hx', hc'⟩ := hv.at 1 (by decide)
  simp only [Value.slice.injEq, Option.some.injEq, Addr.mk.injEq] at h2
  obtain ⟨⟨rfl, _, _⟩, _, rfl⟩ := h2
  exact ⟨g, cap, rfl, hcap, hg.2, hc 0 _ rfl, hc' 0 _ rfl⟩

theorem call2 (U : Utf valid Tabs) (W : World) (hT : Tabs W) (hL : Table W) (g0 : Nat) (h : W.heap[g0]? = some (.cells #[.int .u8 0, .int .u8 0, .int .u8 0, .int .u8 1, .int .u8 2] 5)) :
    Calls Tryd.prog 9 #[.string ⟨#[91, 63, 93]⟩, .slice (some ⟨g0, 0, none⟩) 5 5] W fun e w' => e = .returned (.tuple #[vv 0 ⟨#[]⟩ (.slice none 0 0), .int .i64 3]) ∧ Below W.heap.size W w' := by
  refine (decode_any U W hT hL ⟨#[91, 63, 93]⟩ _ [0, 0, 0, 1, 2] (by simp) (lit_at h)).mono ?_
  rintro e w' ⟨hr, hb⟩
  have e1 : Orch.decode valid (⟨#[91, 63, 93]⟩ : ByteArray).data.toList [0, 0, 0, 1, 2] = _ := dec2 valid
  rw [e1] at hr
  exact ⟨hr, hb⟩

theorem call3 (U : Utf valid Tabs) (hv97 : valid ⟨#[97]⟩ = true) (W : World) (hT : Tabs W) (hL : Table W) (g0 : Nat) (h : W.heap[g0]? = some (.cells #[.int .u8 0, .int .u8 0, .int .u8 0, .int .u8 1, .int .u8 97] 5)) :
    Calls Tryd.prog 9 #[.string ⟨#[116]⟩, .slice (some ⟨g0, 0, none⟩) 5 5] W fun e w' => (∃ a m c, e = .returned (.tuple #[vv 0 ⟨#[97]⟩ (.slice a m c), .int .i64 0])) ∧ Below W.heap.size W w' := by
  refine (decode_any U W hT hL ⟨#[116]⟩ _ [0, 0, 0, 1, 97] (by simp) (lit_at h)).mono ?_
  rintro e w' ⟨hr, hb⟩
  have e1 : Orch.decode valid (⟨#[116]⟩ : ByteArray).data.toList [0, 0, 0, 1, 97] = _ := dec3 valid hv97
  rw [e1] at hr
  obtain ⟨lv, rfl, hv⟩ := hr
  obtain ⟨a, c, rfl⟩ := hv.shape
  exact ⟨⟨a, _, c, rfl⟩, hb⟩

set_option maxRecDepth 8000 in
set_option maxHeartbeats 2000000 in
theorem canon_walk (U : Utf valid Tabs) (hv97 : valid ⟨#[97]⟩ = true) (w : World) (hT : Tabs w) (hL : Table w) (s t : ByteArray) (ht : t.size ≤ 9223372036854775807) :
    Calls Tryd.prog 4 #[.string s, .string t] w fun e w' => e = .returned (.bool true) ∧ Below w.heap.size w w' := by
  have HTb : Hid (∀ W, Below w.heap.size w W → Tabs W) := fun W h => U.kept (U.size hT) h hT
  have HLb : Hid (∀ W, Below w.heap.size w W → Table W) := fun W h => hL.below h hL.pos
  have hconv : ∀ W, (convert 9 34 (.string t)).run Tryd.prog W = .ok (.slice (some ⟨W.heap.size, 0, none⟩) t.size (grownCap W t.size 0 5)) (Lib.bytesWorld W 5 t) := fun W => Lib.run_convert_string_bytes W 9 34 5 t Tryd.underlying9 Tryd.underlying34 Tryd.underlying5
  go_enter Tryd.func4, Tryd.ntmps4
  go_wp2_with fail
  refine (call1 U _ (HTb.out _ (below1 _ _)) (HLb.out _ (below1 _ _)) w.heap.size (heap_alloc_new _ _)).mono ?_
  rintro e w1 ⟨⟨g, cap, rfl, hcap, hg, hc0, hc3⟩, hb1⟩
  have HB1 : Hid (Below w.heap.size w w1) := (below1 _ _).trans (hb1.mono (by simp))
  clear hb1
  go_wp2_with fail
  obtain ⟨p0, p1⟩ := new2 w1 (.cells #[.int .i64 0, .string ⟨#[]⟩, .slice (some ⟨g, 0, none⟩) 2 cap] 31) (.cells #[.int .u8 0, .int .u8 0, .int .u8 0, .int .u8 1, .int .u8 2] 5)
  have hbA : Below w.heap.size w ((w1.alloc (.cells #[.int .i64 0, .string ⟨#[]⟩, .slice (some ⟨g, 0, none⟩) 2 cap] 31)).alloc (.cells #[.int .u8 0, .int .u8 0, .int .u8 0, .int .u8 1, .int .u8 2] 5)) := HB1.out.trans ((below2 w1 _ _).mono HB1.out.size)
  refine (call2 U _ (HTb.out _ hbA) (HLb.out _ hbA) (w1.heap.size + 1) p1).mono ?_
  rintro e w2 ⟨rfl, hb2⟩
  have HB2 : Hid (Below w.heap.size w w2) := hbA.trans (hb2.mono (by have := hbA.size; exact this))
  have HB2r : Hid (Below w1.heap.size w1 w2) := (below2 w1 _ _).trans (hb2.mono (by simp; omega))
  have f5 : w2.heap[w1.heap.size]? = _ := (hb2.block _ (ltOf p0)).trans p0
  have g0 : w2.cell? ⟨g, 0, none⟩ = some (.int .i64 1) := (HB2r.out.cell (p := ⟨g, 0, none⟩) hg).trans hc0
  have g3 : w2.cell? ⟨g, 3, none⟩ = some (.int .i64 0) := (HB2r.out.cell (p := ⟨g, 3, none⟩) hg).trans hc3
  have hg2 : g < w2.heap.size := Nat.lt_of_lt_of_le hg HB2r.out.size
  have F5 := hide f5
  clear hb2 hc0 hc3 p0 p1 hbA HB2r f5
  generalize w1.heap.size = G1 at *
  clear HB1 hg
  go_wp2_with fail
  obtain ⟨p0, p1⟩ := new2 w2 (.cells #[.int .i64 0, .string ⟨#[]⟩, .slice none 0 0] 31) (.cells #[.int .u8 0, .int .u8 0, .int .u8 0, .int .u8 1, .int .u8 97] 5)
  have hbA : Below w.heap.size w ((w2.alloc (.cells #[.int .i64 0, .string ⟨#[]⟩, .slice none 0 0] 31)).alloc (.cells #[.int .u8 0, .int .u8 0, .int .u8 0, .int .u8 1, .int .u8 97] 5)) := HB2.out.trans ((below2 w2 _ _).mono HB2.out.size)
  refine (call3 U hv97 _ (HTb.out _ hbA) (HLb.out _ hbA) (w2.heap.size + 1) p1).mono ?_
  rintro e w3 ⟨⟨xa, xm, xc, rfl⟩, hb3⟩
  have HB3 : Hid (Below w.heap.size w w3) := hbA.trans (hb3.mono (by have := hbA.size; exact this))
  have HB3r : Hid (Below w2.heap.size w2 w3) := (below2 w2 _ _).trans (hb3.mono (by simp; omega))
  have f5 : w3.heap[G1]? = _ := (HB3r.out.block _ (ltOf F5.out)).trans F5.out
  have q0 : w3.cell? ⟨g, 0, none⟩ = some (.int .i64 1) := (HB3r.out.cell (p := ⟨g, 0, none⟩) hg2).trans g0
  have q3 : w3.cell? ⟨g, 3, none⟩ = some (.int .i64 0) := (HB3r.out.cell (p := ⟨g, 3, none⟩) hg2).trans g3
  have hg3 : g < w3.heap.size := Nat.lt_of_lt_of_le hg2 HB3r.out.size
  have hG3 : G1 < w3.heap.size := ltOf f5
  have v2 := cellOf (j := 2) f5 rfl
  clear hb3 g0 g3 p0 p1 hbA HB3r f5 F5 HB2 hg2
  go_wp2_with fail
  have hsz3 : (w3.alloc (.cells #[.int .i64 0, .string ⟨#[97]⟩, .slice xa xm xc] 31)).heap.size = w3.heap.size + 1 := by simp
  have hbs := bytes_at (w3.alloc (.cells #[.int .i64 0, .string ⟨#[97]⟩, .slice xa xm xc] 31)) t
  have hbA : Below w.heap.size w (Lib.bytesWorld (w3.alloc (.cells #[.int .i64 0, .string ⟨#[97]⟩, .slice xa xm xc] 31)) 5 t) := (HB3.out.alloc HB3.out.size _).trans ((below_bytes _ t).mono (by have := HB3.out.size; rw [hsz3]; omega))
  rw [hsz3] at hbs
  have hdec := decode_any U _ (HTb.out _ hbA) (HLb.out _ hbA) s _ t.data.toList (by rw [← Lib.size_eq]; exact ht) hbs
  have HBA := hide hbA
  clear hbs hbA hsz3 hconv
  generalize Lib.bytesWorld (w3.alloc (.cells #[.int .i64 0, .string ⟨#[97]⟩, .slice xa xm xc] 31)) 5 t = W4 at *
  generalize grownCap (w3.alloc (.cells #[.int .i64 0, .string ⟨#[97]⟩, .slice xa xm xc] 31)) t.size 0 5 = C4 at *
  cases hd : Orch.decode valid s.data.toList t.data.toList with
  | error c =>
    rw [hd] at hdec
    have hc := decode_err hd
    refine hdec.mono ?_
    rintro e w4 ⟨he, hb4⟩
    have he' : e = .returned (.tuple #[vv 0 ⟨#[]⟩ (.slice none 0 0), .int .i64 c]) := he
    subst he'
    have HB4 : Hid (Below w.heap.size w w4) := HBA.out.trans (hb4.mono HBA.out.size)
    clear hb4 hdec he hd
    rcases hc with rfl | rfl
    · go_wp2
      go_ret
      exact ⟨rfl, HB4.out.alloc HB4.out.size _⟩
    · go_wp2
      go_ret
      exact ⟨rfl, HB4.out.alloc HB4.out.size _⟩
  | ok x =>
    rw [hd] at hdec
    have hcan := Orch.canon valid _ _ _ hd
    refine hdec.mono ?_
    rintro e w4 ⟨he, hb4⟩
    obtain ⟨lv, he', hvs⟩ := he
    obtain ⟨la, lc, rfl⟩ := hvs.shape
    subst he'
    have HB4 : Hid (Below w.heap.size w w4) := HBA.out.trans (hb4.mono HBA.out.size)
    have HE : Hid (∀ W, Below w4.heap.size w4 W → Calls Tryd.prog 8 #[.string s, vval x (.slice la x.l.length lc)] W fun e w' => (∃ ov, e = .returned (.tuple #[ov, .int .i64 0]) ∧ w'.ownsRow W.heap.size 5 1 ov t.data.toList.length (bcells t.data.toList)) ∧ Below W.heap.size W w') := fun W hbW => by
      have hbw : Below w.heap.size w W := HB4.out.trans (hbW.mono HB4.out.size)
      have := encode_any U W (HTb.out W hbw) (HLb.out W hbw) s x (fun b => b < w4.heap.size) _ (hvs.congr (fun b h => h.2) (fun b h => hbW.block b h.2)) (fun b h => Nat.lt_of_lt_of_le h hbW.size)
      rw [hcan] at this
      exact this
    clear hb4 hdec hd hcan hvs
    go_wp2_with fail
    refine (HE.out _ (below1 _ _)).mono ?_
    rintro e w5 ⟨⟨ov, rfl, ho⟩, hb5⟩
    have HB5 : Hid (Below w.heap.size w w5) := (HB4.out.alloc HB4.out.size _).trans (hb5.mono (by have := HB4.out.size; simp; omega))
    have hcv := conv_own ho
    rw [Lib.mk_data] at hcv
    obtain ⟨oa, oc, rfl⟩ := own_shape ho
    rw [← Lib.size_eq] at hcv
    clear hb5 ho HE
    go_wp2
    go_ret
    exact ⟨rfl, HB5.out⟩
end
end Go.Proofs.YtlghcldiboecoaaDoor
