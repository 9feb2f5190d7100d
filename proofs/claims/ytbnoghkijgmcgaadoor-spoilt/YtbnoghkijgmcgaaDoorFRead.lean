/- The nodes of a file of the second version, read. -/
import Derived.Test.YtbnoghkijgmcgaaDoorFPut
set_option linter.unusedVariables false
namespace Go.Proofs.YtbnoghkijgmcgaaDoor
open Go.RowKit

/-- The node of which these are the fields. -/
def nodeOf (v : Orch.V) : Orch.Node :=
  ⟨(v.l.getD 0 (.mk 0 ByteArray.empty [])).s, (v.l.getD 1 (.mk 0 ByteArray.empty [])).s, (v.l.getD 2 (.mk 0 ByteArray.empty [])).s, (v.l.getD 3 (.mk 0 ByteArray.empty [])).n, (v.l.getD 4 (.mk 0 ByteArray.empty [])).n, (v.l.getD 5 (.mk 0 ByteArray.empty [])).n⟩

/-- So many nodes out of bytes; what is left. -/
def rdN : Nat → List UInt8 → Option (List Orch.Node × List UInt8)
  | 0, l => some ([], l)
  | k + 1, l => match vtake validB ty2 l with
    | none => none
    | some (v, rest) => (rdN k rest).map fun r => (nodeOf v :: r.1, r.2)

theorem vtake_six {l : List UInt8} {v : Orch.V} {rest : List UInt8} (h : vtake validB ty2 l = some (v, rest)) : v.l.length = 6 := by
  unfold vtake at h
  cases hq : Orch.take validB 9 ty2 (l.take 1000) with
  | none => rw [hq] at h; cases h
  | some vr =>
    obtain ⟨v', r'⟩ := vr
    rw [hq] at h
    simp only [Option.some.injEq, Prod.mk.injEq] at h
    obtain ⟨rfl, _⟩ := h
    have hq' : (Orch.takeE (Orch.take validB 8) ty2 6 0 (l.take 1000)).map Orch.listV = some (v', r') := hq
    simp only [Option.map_eq_some_iff] at hq'
    obtain ⟨⟨es, r⟩, he, hl⟩ := hq'
    simp only [Orch.listV, Prod.mk.injEq] at hl
    obtain ⟨rfl, _⟩ := hl
    exact Orch.takeE_length _ _ _ _ _ _ _ he

theorem vtake_len {l : List UInt8} {v : Orch.V} {rest : List UInt8} (h : vtake validB ty2 l = some (v, rest)) : rest.length ≤ l.length := by
  unfold vtake at h
  split at h
  · cases h
  · simp only [Option.some.injEq, Prod.mk.injEq] at h
    obtain ⟨_, rfl⟩ := h
    rw [List.length_drop]
    omega

theorem six {w : World} {S : Nat → Prop} {v : Orch.V} {lv : Value} (h : VsAt w S v.l lv) (h6 : v.l.length = 6) :
    ∃ g cap, lv = .slice (some ⟨g, 0, none⟩) 6 cap ∧ 6 ≤ cap ∧ S g ∧ w.cell? ⟨g, 1, none⟩ = some (.string (nodeOf v).path) ∧ w.cell? ⟨g, 4, none⟩ = some (.string (nodeOf v).data) ∧ w.cell? ⟨g, 7, none⟩ = some (.string (nodeOf v).note) ∧
      w.cell? ⟨g, 9, none⟩ = some (.int .i64 (nodeOf v).made) ∧ w.cell? ⟨g, 12, none⟩ = some (.int .i64 (nodeOf v).changed) ∧ w.cell? ⟨g, 15, none⟩ = some (.int .i64 (nodeOf v).version) := by
  have at' : ∀ i (hi : i < v.l.length), ∃ g cap x, lv = .slice (some ⟨g, 0, none⟩) 6 cap ∧ 6 ≤ cap ∧ S g ∧ ∀ j u, (vcell (v.l.getD i (.mk 0 ByteArray.empty []), x))[j]? = some u → w.cell? ⟨g, i * 3 + j, none⟩ = some u := fun i hi => by
    obtain ⟨g, cap, x, e, hc, hS, _, hcell⟩ := h.at i hi
    rw [h6] at e hc
    refine ⟨g, cap, x, e, hc, hS, fun j u hu => hcell j u ?_⟩
    rw [List.getD_eq_getElem?_getD, List.getElem?_eq_getElem hi] at hu
    exact hu
  obtain ⟨g, cap, x0, rfl, hc, hS, k0⟩ := at' 0 (by omega)
  obtain ⟨g1, cap1, x1, e1, _, _, k1⟩ := at' 1 (by omega)
  obtain ⟨g2, cap2, x2, e2, _, _, k2⟩ := at' 2 (by omega)
  obtain ⟨g3, cap3, x3, e3, _, _, k3⟩ := at' 3 (by omega)
  obtain ⟨g4, cap4, x4, e4, _, _, k4⟩ := at' 4 (by omega)
  obtain ⟨g5, cap5, x5, e5, _, _, k5⟩ := at' 5 (by omega)
  simp only [Value.slice.injEq, Option.some.injEq, Addr.mk.injEq] at e1 e2 e3 e4 e5
  obtain ⟨⟨rfl, _⟩, _⟩ := e1
  obtain ⟨⟨rfl, _⟩, _⟩ := e2
  obtain ⟨⟨rfl, _⟩, _⟩ := e3
  obtain ⟨⟨rfl, _⟩, _⟩ := e4
  obtain ⟨⟨rfl, _⟩, _⟩ := e5
  exact ⟨g, cap, rfl, hc, hS, k0 1 _ rfl, k1 1 _ rfl, k2 1 _ rfl, k3 0 _ rfl, k4 0 _ rfl, k5 0 _ rfl⟩

theorem own_mono {w : World} {base base' : Nat} {e : TypeId} {size : Nat} {v : Value} {n : Nat} {xs : List Value} (h : w.ownsRow base e size v n xs) (hb : base' ≤ base) : w.ownsRow base' e size v n xs :=
  ⟨h.1, h.2.imp id fun ⟨g, cap, cur, h1, h2, h3⟩ => ⟨g, cap, cur, h1, Nat.le_trans hb h2, h3⟩⟩

/-- What readNodes leaves. -/
def rnRes (w w' : World) (e : Ending) : Option (List Orch.Node × List UInt8) → Prop
  | none => e = .returned (.tuple #[.slice none 0 0, .bool false])
  | some (ns, rest) => ∃ v, e = .returned (.tuple #[v, .bool (decide (rest.length = 0))]) ∧ w'.ownsRow w.heap.size 69 6 v ns.length (ns.flatMap ncell)

theorem Tryd.info69 : (Tryd.prog.info? 69).map (fun i => (i.zero, i.size, i.bytes)) = some (some (ndv ⟨#[]⟩ ⟨#[]⟩ ⟨#[]⟩ 0 0 0), 6, 72) := by kernel_rfl

set_option maxRecDepth 8000 in
set_option maxHeartbeats 4000000 in
theorem readNodes_2 {Tabs : World → Prop} (U : Utf validB Tabs) (w : World) (hT : Tabs w) (hL : Table w) (hSc : Schemas w) (bv : Value) (l : List UInt8) (hl : l.length ≤ 1000000) (hbv : BsAt w bv l) (c : Nat) (hc : c ≤ 32) :
    Calls Tryd.prog 36 #[bv, .int .i64 2, .int .i64 c] w fun e w' => rnRes w w' e (rdN c l) ∧ Below w.heap.size w w' := by
  have HTb : Hid (∀ W, Below w.heap.size w W → Tabs W) := fun W h => U.kept (U.size hT) h hT
  have HP : Hid (∀ W, Below w.heap.size w W → Calls Tryd.prog 19 #[.string ⟨#[40, 116, 98, 116, 56, 56, 52, 41]⟩] W fun e w' => parseRes W w' e (some ty2) ∧ Below W.heap.size W w') := fun W h => by
    have := parse_any W ⟨#[40, 116, 98, 116, 56, 56, 52, 41]⟩ (hL.below h hL.pos)
    exact this
  obtain ⟨st, sf, hs0⟩ := hSc
  have s2 := cellOf (j := 2) hs0 rfl
  have HBV := hide hbv
  obtain ⟨b, off, cap, rfl, hcap, hlt, hbytes⟩ := hbv
  clear hbytes hs0 hT hL
  go_enter Tryd.func36, Tryd.ntmps36
  go_wp2_with fail
  refine (HP.out w (Below.refl _ _)).mono ?_
  rintro e w1 ⟨⟨psv, he, hts⟩, hb1⟩
  obtain ⟨pa, pc, rfl⟩ := hts.shape
  have he' : e = .returned (.tuple #[tyv 40 3 0 0 0 false 41 (.slice pa 6 pc), .bool true]) := he
  subst he'
  have hn1 := heap_alloc_new w1 (.cells #[.int .u8 40, .int .i64 3, .int .i64 0, .int .i64 0, .int .i64 0, .bool false, .int .u8 41, .slice pa 6 pc] 62)
  have hs1 : (w1.alloc (.cells #[.int .u8 40, .int .i64 3, .int .i64 0, .int .i64 0, .int .i64 0, .bool false, .int .u8 41, .slice pa 6 pc] 62)).heap.size = w1.heap.size + 1 := by simp
  have hb2 : Below w.heap.size w (w1.alloc (.cells #[.int .u8 40, .int .i64 3, .int .i64 0, .int .i64 0, .int .i64 0, .bool false, .int .u8 41, .slice pa 6 pc] 62)) := hb1.alloc hb1.size _
  have hts2 : TsAt (w1.alloc (.cells #[.int .u8 40, .int .i64 3, .int .i64 0, .int .i64 0, .int .i64 0, .bool false, .int .u8 41, .slice pa 6 pc] 62)) (fun b => w.heap.size ≤ b ∧ b < w1.heap.size) ty2.ps (.slice pa 6 pc) := hts.congr (fun _ h => h) (fun b hb => Below.heap_alloc _ _ _ hb.2)
  have HB2 := hide hb2
  have HTS2 := hide hts2
  have HN2 := hide hn1
  have HS2 := hide hs1
  have HSW := hide hb1.size
  clear hts he hb1 hb2 hts2 hn1 hs1 s2 HP
  go_wp2_with fail
  generalize w1.alloc (.cells #[.int .u8 40, .int .i64 3, .int .i64 0, .int .i64 0, .int .i64 0, .bool false, .int .u8 41, .slice pa 6 pc] 62) = w2 at *
  generalize w1.heap.size = G at *
  go_loopw [0, 10, 24] (fun o nv i wr => ∃ (k : Nat) (ns : List Orch.Node) (rest : List UInt8), k ≤ c ∧ i = .int .i64 k ∧ ns.length = k ∧ rest.length ≤ 1000000 ∧ Hid (wr.ownsRow (G + 1) 69 6 nv ns.length (ns.flatMap ncell)) ∧ Hid (Below w2.heap.size w2 wr) ∧ Hid (BsAt wr o rest) ∧ Hid (BsAt w o rest) ∧
      Hid (rdN c l = (rdN (c - k) rest).map fun r => (ns ++ r.1, r.2)))
    (fun _ _ i _ => c - (intOf i).toNat)
  case atStart => exact ⟨0, [], l, Nat.zero_le _, rfl, rfl, hl, ⟨rfl, .inl ⟨rfl, rfl⟩⟩, Below.refl _ _, HBV.out.below HB2.out (Nat.le_refl _), HBV, by show _ = _; simp⟩
  case round =>
    obtain ⟨k, ns, rest, hk, rfl, hnk, hrl, HO, HBR, HBS, HBS0, HRD⟩ := hrel
    have hszr := HBR.out.size
    have hs2 := HS2.out
    have hsw := HSW.out
    by_cases hlk : k < c
    · have hkz : (k : Int) < (c : Int) := by omega
      have hT8 : wr.heap[G]? = some (.cells #[.int .u8 40, .int .i64 3, .int .i64 0, .int .i64 0, .int .i64 0, .bool false, .int .u8 41, .slice pa 6 pc] 62) := (HBR.out.block _ (by omega)).trans HN2.out
      have t0 := cellOf (j := 0) hT8 rfl
      have t1 := cellOf (j := 1) hT8 rfl
      have t2 := cellOf (j := 2) hT8 rfl
      have t3 := cellOf (j := 3) hT8 rfl
      have t4 := cellOf (j := 4) hT8 rfl
      have t5 := cellOf (j := 5) hT8 rfl
      have t6 := cellOf (j := 6) hT8 rfl
      have t7 := cellOf (j := 7) hT8 rfl
      have hbw : Below w.heap.size w wr := HB2.out.trans (HBR.out.mono (by omega))
      have HBW := hide hbw
      have hcall := vt_any U wr (HTb.out wr hbw) ty2 ok_ty2 (fun b => b < wr.heap.size) (.slice pa 6 pc) (HTS2.out.congr (fun b h => by omega) (fun b h => HBR.out.block b (by omega))) (fun _ h => h) u0 rest (by omega) HBS.out
      have HCALL : Hid (Calls Tryd.prog 33 #[tyv 40 3 0 0 0 false 41 (.slice pa 6 pc), u0] wr fun e w' => vtRes wr w' u0 rest e (vtake validB ty2 rest) ∧ Below wr.heap.size wr w') := hcall
      have hck : c - k = (c - k - 1) + 1 := by omega
      rw [hck] at HRD
      obtain ⟨b1, off1, cap1, hu0, _⟩ := HBS.out
      clear hcall hbw hT8
      cases hq : vtake validB ty2 rest with
      | none =>
        rw [hq] at HCALL
        have HNONE : Hid (rdN c l = none) := by show _ = _; rw [HRD.out]; simp [rdN, hq]
        subst hu0
        go_wp2_with fail
        refine HCALL.out.mono ?_
        rintro e w3 ⟨he, hb3⟩
        have he' : e = .returned (.tuple #[vv 0 ⟨#[]⟩ (.slice none 0 0), .slice none 0 0, .bool false]) := he
        subst he'
        have HB3 : Hid (Below w.heap.size w w3) := HBW.out.trans (hb3.mono HBW.out.size)
        clear he hb3 t0 t1 t2 t3 t4 t5 t6 t7
        go_wp2
        exact bodyPost_ret (v := .tuple #[.slice none 0 0, .bool false]) (by simp [results, Tryd.results36, go_sem]) rfl ⟨by rw [HNONE.out]; rfl, HB3.out.alloc HB3.out.size _⟩
      | some vr =>
        obtain ⟨v, rest'⟩ := vr
        have h6 := vtake_six hq
        rw [hq] at HCALL
        have hnext : rdN c l = (rdN (c - (k + 1)) rest').map fun r => ((ns ++ [nodeOf v]) ++ r.1, r.2) := by
          rw [HRD.out, show c - k - 1 = c - (k + 1) by omega]
          simp only [rdN, hq, Option.map_map]
          congr 1
          funext r
          simp
        have HNEXT := hide hnext
        clear hnext
        subst hu0
        go_wp2_with fail
        refine HCALL.out.mono ?_
        rintro e w3 ⟨⟨lv, rv, rfl, hvl, htl⟩, hb3⟩
        obtain ⟨g, vcap, rfl, hvc, hgS, k0, k1, k2, k3, k4, k5⟩ := six hvl h6
        have hbA := below1 w3 (.cells #[.int .i64 v.n, .string v.s, .slice (some ⟨g, 0, none⟩) 6 vcap] 31)
        have hND := node_2 (w3.alloc (.cells #[.int .i64 v.n, .string v.s, .slice (some ⟨g, 0, none⟩) 6 vcap] 31)) v.n v.s g vcap hvc (by simp; omega) (nodeOf v).path (nodeOf v).data (nodeOf v).note (nodeOf v).made (nodeOf v).changed (nodeOf v).version
          ((hbA.cell (p := ⟨g, 1, none⟩) hgS.2).trans k0) ((hbA.cell (p := ⟨g, 4, none⟩) hgS.2).trans k1) ((hbA.cell (p := ⟨g, 7, none⟩) hgS.2).trans k2) ((hbA.cell (p := ⟨g, 9, none⟩) hgS.2).trans k3) ((hbA.cell (p := ⟨g, 12, none⟩) hgS.2).trans k4) ((hbA.cell (p := ⟨g, 15, none⟩) hgS.2).trans k5)
        have HND := hide hND
        have hb4 : Below wr.heap.size wr (w3.alloc (.cells #[.int .i64 v.n, .string v.s, .slice (some ⟨g, 0, none⟩) 6 vcap] 31)) := hb3.trans (hbA.mono hb3.size)
        have HB4 := hide hb4
        have HTL := hide htl
        obtain ⟨rb, ro, rc, hrv, _⟩ := htl wr HBS.out
        have hrl' : rest'.length ≤ 1000000 := Nat.le_trans (vtake_len hq) hrl
        clear hvl hb3 hb4 hbA hND htl k0 k1 k2 k3 k4 k5 t0 t1 t2 t3 t4 t5 t6 t7 hgS
        subst hrv
        go_wp2_with fail
        refine HND.out.mono ?_
        rintro e w5 ⟨rfl, hb5⟩
        have hb45 : Below wr.heap.size wr w5 := HB4.out.trans (hb5.mono HB4.out.size)
        have HO5 := hide (ownsRow_below HO.out hb45)
        have HB5 := hide hb45
        have hs5 := hb45.size
        obtain ⟨i0, hi0, hz0, hz1, hz2⟩ := info_parts Tryd.info69
        generalize hxx : nodeOf v = x at *
        obtain ⟨xp, xd, xt, xm, xch, xv⟩ := x
        simp only
        clear hb45 hb5 HND HB4
        obtain ⟨qa, qc, hqv⟩ : ∃ a c, u10 = .slice a ns.length c := by
          rcases HO.out.2 with ⟨e, h⟩ | ⟨g, cap, cur, e, _⟩
          · exact ⟨none, 0, by rw [e, h]⟩
          · exact ⟨_, _, e⟩
        subst hqv
        go_wp2_with (at_builtin; refine wpList_append_own _ rfl _ _ 44 rfl (G + 1) 69 i0 (ndv ⟨#[]⟩ ⟨#[]⟩ ⟨#[]⟩ 0 0 0) 6 72 Tryd.underlying44 hi0 hz0 hz1 hz2 rfl (by decide) _ _ _ rfl (HO5.out.alloc _) ⟨w5.heap.size, 0, none⟩ 1 1 (ncell ⟨xp, xd, xt, xm, xch, xv⟩) rfl rfl ?hn ?h1 ?c3 ?c4 ?c5 ?_)
        case hn => exact World.news_of_block (heap_alloc_new w5 _)
        case h1 => intro u hu; simp only [ncell, List.mem_cons, List.mem_nil_iff, or_false] at hu; rcases hu with rfl | rfl | rfl | rfl | rfl | rfl <;> rfl
        case c3 => unfold maxLen; omega
        case c4 => omega
        case c5 => simp; omega
        intro v' w6 hown' hgrow _
        have hbg : Below (G + 1) w5 w6 := ((Below.refl (G + 1) w5).alloc (by omega) _).grown hgrow (by simp; omega) (fun j hj => (HO5.out.lt j (by rw [hnk]; exact hj)).1)
        have HB6 : Hid (Below w2.heap.size w2 w6) := by
          show Below _ _ _
          rw [HS2.out]
          exact ((HS2.out ▸ HBR.out : Below (G + 1) w2 wr).trans (HB5.out.mono (by omega))).trans hbg
        have HO6 : Hid (w6.ownsRow (G + 1) 69 6 v' (ns ++ [(⟨xp, xd, xt, xm, xch, xv⟩ : Orch.Node)]).length ((ns ++ [(⟨xp, xd, xt, xm, xch, xv⟩ : Orch.Node)]).flatMap ncell)) := by
          show World.ownsRow _ _ _ _ _ _ _
          rw [List.length_append, List.flatMap_append, hnk]
          simpa using hown'
        have hbw6 : Below w.heap.size w w6 := HB2.out.trans (HB6.out.mono (by have := HB2.out.size; omega))
        have HBS6 : Hid (BsAt w6 (.slice (some ⟨rb, ro, none⟩) rest'.length rc) rest') := (HTL.out w HBS0.out).below hbw6 (Nat.le_refl _)
        have HBS60 := hide (HTL.out w HBS0.out)
        have hl1 : (ns ++ [(⟨xp, xd, xt, xm, xch, xv⟩ : Orch.Node)]).length = k + 1 := by simp [hnk]
        have HLL := hide hl1
        clear hown' hgrow hbg hbw6 hl1
        go_wp2_with fail
        go_roundw
        case rel => exact ⟨k + 1, ns ++ [⟨xp, xd, xt, xm, xch, xv⟩], rest', by omega, by go_num, HLL.out, hrl', HO6, HB6, HBS6, HBS60, by show _ = _; rw [HNEXT.out]⟩
        case measure => first | (simp [intOf]; done) | (simp [intOf]; omega)
    · have hkz : ¬ (k : Int) < (c : Int) := by omega
      obtain rfl : k = c := by omega
      have HEND : Hid (rdN k l = some (ns, rest)) := by
        show _ = _
        rw [HRD.out, Nat.sub_self]
        simp [rdN]
      obtain ⟨b1, off1, cap1, hu0, _⟩ := HBS.out
      subst hu0
      have HBW : Hid (Below w.heap.size w wr) := HB2.out.trans (HBR.out.mono (by omega))
      have HDEC : Hid (((rest.length : Int) == 0) = decide (rest.length = 0)) := by
        show _ = _
        rw [Bool.eq_iff_iff, beq_iff_eq, decide_eq_true_iff]
        omega
      go_wp2
      exact bodyPost_ret (v := .tuple #[u10, .bool (decide (rest.length = 0))]) (by simp [results, Tryd.results36, go_sem, HDEC.out]) rfl ⟨by rw [HEND.out]; exact ⟨u10, rfl, own_mono HO.out (by omega)⟩, HBW.out⟩
end Go.Proofs.YtbnoghkijgmcgaaDoor
