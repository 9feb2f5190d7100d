/- Bytes that are no file. -/
import Derived.Test.YtlghcldiboecoaaDoorFGrown
set_option linter.unusedVariables false
namespace Go.Proofs.YtlghcldiboecoaaDoor
open Go.RowKit

/-- Bytes that are no file, and what load_2 asks of them. -/
def Bad (l : List UInt8) : Prop := l.length ≤ 1000000 ∧ (¬ ∃ n ns, LoadIs l n ns) ∧
  (4 ≤ l.length → Orch.uns (l.drop (l.length - 4)) = Orch.sum (l.take (l.length - 4)) → ∀ v n c, headOf ((l.take (l.length - 4)).take 17) = some (v, n, c) → v = 2 ∧ c ≤ 32)

section
variable {Tabs : World → Prop}

theorem load_bad (U : Utf validB Tabs) (w : World) (hT : Tabs w) (hL : Table w) (hSc : Schemas w) (mx : Int) (hm : w.cell? ⟨4, 0, none⟩ = some (.int .i64 mx)) (h4 : 4 < w.heap.size) (bv : Value) (l : List UInt8) (hbv : BsAt w bv l) (hb : Bad l) :
    Calls Tryd.prog 28 #[bv] w fun e w' => e = .returned (.tuple #[.int .i64 0, .int .i64 0, .slice none 0 0, .int .i64 7]) ∧ Below w.heap.size w w' := by
  refine (load_2 U w hT hL hSc mx hm h4 bv l hb.1 hbv hb.2.2).mono ?_
  rintro e w' ⟨h | ⟨_, h⟩, hb'⟩
  · obtain ⟨n, ns, v, hl, _⟩ := h
    exact absurd ⟨n, ns, hl⟩ hb.2.1
  · exact ⟨h, hb'⟩

theorem bad_shorter {n : Int} {ns : List Orch.Node} (h : Grow n ns) : Bad ((fileB n ns).take ((fileB n ns).length - 1)) := by
  have hi := grow_is h
  have hl := file_len (n := n) hi.2.1 (grow_nb h)
  exact ⟨by rw [List.length_take]; omega, shorter_none hi.2.2.1 (by omega) (grow_tree h) (grow_nb h), fun _ _ => shorter_cov hi.2.2.1 (by omega) (grow_tree h) (grow_nb h)⟩
theorem bad_longer {n : Int} {ns : List Orch.Node} (h : Grow n ns) (x : UInt8) : Bad (fileB n ns ++ [x]) := by
  have hi := grow_is h
  have hl := file_len (n := n) hi.2.1 (grow_nb h)
  exact ⟨by rw [List.length_append, List.length_singleton]; omega, longer_none hi.2.2.1 (by omega) (grow_tree h) (grow_nb h) x, fun _ _ => longer_cov hi.2.2.1 (by omega) (grow_tree h) x⟩
theorem bad_changed {n : Int} {ns : List Orch.Node} (h : Grow n ns) (i : Nat) (hi : i < (fileB n ns).length) (v : UInt8) (hv : v ≠ (fileB n ns)[i]) : Bad ((fileB n ns).set i v) := by
  have hg := grow_is h
  have hl := file_len (n := n) hg.2.1 (grow_nb h)
  exact ⟨by rw [List.length_set]; omega, changed_none n ns i hi v hv, fun _ hs => absurd hs (changed_sum n ns i hi v hv)⟩
end
end Go.Proofs.YtlghcldiboecoaaDoor

/- Spoilt: its walk. -/
set_option linter.unusedVariables false
namespace Go.Proofs.YtlghcldiboecoaaDoor
open Go.RowKit

theorem nil44 (W : World) : (binOp .eql 44 (.slice none 0 0) (.slice none 0 0)).run Tryd.prog W = .ok (.bool true) W := by kernel_rfl
theorem nil34 (W : World) : (binOp .eql 34 (.slice none 0 0) (.slice none 0 0)).run Tryd.prog W = .ok (.bool true) W := by kernel_rfl

set_option maxRecDepth 8000 in
set_option maxHeartbeats 4000000 in
theorem spoilt_core (w : World) (rawv : Value) (ati tov : Int) (ha0 : -9223372036854775808 ≤ ati) (ha1 : ati ≤ 9223372036854775807) (ht0 : -9223372036854775808 ≤ tov) (ht1 : tov ≤ 9223372036854775807)
    (HG : Hid (Calls Tryd.prog 12 #[rawv, .bool true] w fun e w' => ∃ n v ns, e = .returned (.tuple #[.int .i64 n, v]) ∧ Grow n ns ∧ NsAt w' w'.heap.size v ns ∧ Below w.heap.size w w'))
    (HSV : Hid (∀ W n v ns, Below w.heap.size w W → Grow n ns → NsAt W W.heap.size v ns → Calls Tryd.prog 13 #[.int .i64 2, .int .i64 n, v] W fun e w' => (∃ ov, e = .returned (.tuple #[ov, .bool true]) ∧ w'.ownsRow W.heap.size 5 1 ov (fileB n ns).length (bcells (fileB n ns))) ∧ Below W.heap.size W w'))
    (H15 : Hid (∀ W bv l, Below w.heap.size w W → BsAt W bv l → Bad l → Calls Tryd.prog 15 #[bv] W fun e w' => e = .returned (.tuple #[.int .i64 0, .int .i64 0, .slice none 0 0, .int .i64 7]) ∧ Below W.heap.size W w'))
    (H14 : Hid (∀ W bv l, Below w.heap.size w W → BsAt W bv l → Bad l → Calls Tryd.prog 14 #[bv] W fun e w' => e = .returned (.tuple #[.slice none 0 0, .int .i64 7]) ∧ Below W.heap.size W w')) :
    Calls Tryd.prog 6 #[rawv, .int .i64 ati, .int .i64 tov] w fun e w' => e = .returned (.bool true) ∧ Below w.heap.size w w' := by
  go_enter Tryd.func6, Tryd.ntmps6
  go_wp2_with fail
  refine HG.out.mono ?_
  rintro e w1 ⟨n, v, ns, rfl, hgr, hns, hb1⟩
  have HC13 := hide (HSV.out w1 n v ns hb1 hgr hns)
  obtain ⟨hl1, hl2⟩ := file_len (n := n) (grow_is hgr).2.1 (grow_nb hgr)
  have BS := hide (bad_shorter hgr)
  have BL := hide (bad_longer hgr 120)
  have BC : Hid (∀ i (hi : i < (fileB n ns).length) v, v ≠ (fileB n ns)[i] → Bad ((fileB n ns).set i v)) := fun i hi v hv => bad_changed hgr i hi v hv
  have HB1 := hide hb1
  clear hgr hns hb1 HG HSV
  generalize fileB n ns = F at *
  go_wp2_with fail
  refine HC13.out.mono ?_
  rintro e w2 ⟨⟨ov, rfl, ho2⟩, hb2⟩
  obtain ⟨g, cap, rfl, hcap, hbs⟩ := own_bytes ho2 (by omega)
  have HO2 := hide (own_mono ho2 HB1.out.size)
  have HB2 : Hid (Below w.heap.size w w2) := HB1.out.trans (hb2.mono HB1.out.size)
  obtain ⟨L, hL⟩ : ∃ L, F.length = L + 1 := ⟨F.length - 1, by omega⟩
  have hsh : F.take (F.length - 1) = F.take L := by rw [hL]; simp
  have BS1 : Bad (F.take L) := by rw [← hsh]; exact BS.out
  have H15a := hide (H15.out w2 (.slice (some ⟨g, 0, none⟩) L cap) (F.take L) HB2.out (hbs.shorter (by omega)) BS1)
  have hcapL : L + 1 ≤ cap := by omega
  have hL40 : L + 1 ≤ 40000 := by omega
  rw [hL]
  have HL := hide hL
  clear ho2 hb2 hbs hsh BS1 BS hL hcap hl1 hl2 HC13
  go_wp2_with fail
  refine H15a.out.mono ?_
  rintro e w3 ⟨rfl, hb3⟩
  have HB3 : Hid (Below w.heap.size w w3) := HB2.out.trans (hb3.mono HB2.out.size)
  have HO3 := hide (ownsRow_below HO2.out hb3)
  have hcv1 := conv_own HO3.out
  rw [HL.out] at hcv1
  have hS : ((⟨F.toArray⟩ : ByteArray) ++ ⟨#[120]⟩).data.toList = F ++ [120] := by rw [ByteArray.data_append, Array.toList_append]
  obtain ⟨S, hSe⟩ : ∃ S : ByteArray, S = (⟨F.toArray⟩ : ByteArray) ++ ⟨#[120]⟩ := ⟨_, rfl⟩
  rw [← hSe] at hS
  have HS := hide hS
  have hSe' := hSe.symm
  have hcv2 : (convert 9 34 (.string S)).run Tryd.prog w3 = .ok (.slice (some ⟨w3.heap.size, 0, none⟩) S.size (grownCap w3 S.size 0 5)) (Lib.bytesWorld w3 5 S) := Lib.run_convert_string_bytes w3 9 34 5 S Tryd.underlying9 Tryd.underlying34 Tryd.underlying5
  have HB4 : Hid (Below w.heap.size w (Lib.bytesWorld w3 5 S)) := HB3.out.trans ((below_bytes w3 S).mono HB3.out.size)
  have HO4 := hide (ownsRow_below HO3.out (below_bytes w3 S))
  have H14a := hide (H14.out _ _ (F ++ [120]) HB4.out (by have := bytes_at w3 S; rw [hS] at this; exact this) BL.out)
  have hFl : F.length ≤ 40000 := by have := HL.out; omega
  have hFs : (⟨F.toArray⟩ : ByteArray).size ≤ 40000 := hFl
  clear hb3 HB2 HO2 H15a hS hSe BL
  go_wp2_with fail
  refine H14a.out.mono ?_
  rintro e w5 ⟨rfl, hb5⟩
  have HB5 : Hid (Below w.heap.size w w5) := HB4.out.trans (hb5.mono HB4.out.size)
  have HO5 := hide (ownsRow_below HO4.out hb5)
  clear hb5 HB3 HO3 HB4 HO4 H14a hcv1 hcv2 hSe' HS hFl hFs
  go_wp2_with fail
  refine (pick_any w5 ati (L + 1) ha0 ha1 (by omega) (by omega)).mono ?_
  rintro e w6 ⟨⟨i, hi, rfl⟩, hw6⟩
  have hw7 := hw6.symm
  clear hw6
  subst hw7
  go_wp2_with fail
  refine (pick_any w5 tov 256 ht0 ht1 (by omega) (by omega)).mono ?_
  rintro e w6 ⟨⟨z, hz, rfl⟩, hw6⟩
  have hw7 := hw6.symm
  clear hw6
  subst hw7
  have hiF : i < F.length := by have := HL.out; omega
  have hc := HO5.out.cells (g := g) rfl i (.int .u8 F[i].toNat) (by simp [bcells, hiF])
  rw [Addr.add_lit, Nat.zero_add] at hc
  have hfz := HO5.out.frozenAt i
  have HBC : Hid (∀ u : UInt8, u ≠ F[i] → Bad (F.set i u)) := fun u hu => BC.out i hiF u hu
  have hiz : (i : Int) < (L : Int) + 1 := by omega
  have hy := F[i].toNat_lt
  generalize F[i] = y at *
  clear BC
  have FIN : Hid (∀ u : UInt8, u ≠ y → BsAt (w5.setCell ⟨g, i, none⟩ (.int .u8 u.toNat)) (.slice (some ⟨g, 0, none⟩) (L + 1) cap) (F.set i u) ∧ Below w.heap.size w (w5.setCell ⟨g, i, none⟩ (.int .u8 u.toNat))) := fun u _ => by
    have hst := (HO5.out.stored i (.int .u8 u.toNat)).1
    have hg := (HO5.out.lt g rfl).1
    have e1 : (bcells F).set i (.int .u8 u.toNat) = bcells (F.set i u) := by simp [bcells, List.map_set]
    have e2 : (F.set i u).length = F.length := by simp
    rw [e1, ← e2] at hst
    obtain ⟨g', cap', e, _, hbs⟩ := own_bytes hst (by omega)
    simp only [Value.slice.injEq, Option.some.injEq, Addr.mk.injEq] at e
    obtain ⟨⟨rfl, _⟩, _, rfl⟩ := e
    rw [e2, HL.out] at hbs
    exact ⟨hbs, HB5.out.setCell (p := ⟨g, i, none⟩) hg _⟩
  by_cases hzy : z = y.toNat
  · have hzz : (z : Int) = (y.toNat : Int) := by omega
    go_wp2_with fail
    obtain ⟨u, hue⟩ : ∃ u : UInt8, u.toNat = (y.toNat + 1) % 256 := ⟨UInt8.ofNat ((y.toNat + 1) % 256), by simp⟩
    have hu : u ≠ y := by rintro rfl; omega
    have huz : ((y.toNat : Int) + 1) % 256 = (u.toNat : Int) := by omega
    rw [huz]
    clear huz hue hzz hzy
    obtain ⟨hbs6, hb6⟩ := FIN.out u hu
    have H15b := hide (H15.out _ _ (F.set i u) hb6 hbs6 (HBC.out u hu))
    have HB6 := hide hb6
    have HBS6 := hide hbs6
    clear hb6 hbs6
    generalize w5.setCell ⟨g, i, none⟩ (.int .u8 u.toNat) = w6 at *
    refine H15b.out.mono ?_
    rintro e w7 ⟨rfl, hb7⟩
    have HB7 : Hid (Below w.heap.size w w7) := HB6.out.trans (hb7.mono HB6.out.size)
    have H14b := hide (H14.out w7 _ (F.set i u) HB7.out (HBS6.out.below hb7 (Nat.le_refl _)) (HBC.out u hu))
    clear hb7 FIN
    go_wp2_with fail
    refine H14b.out.mono ?_
    rintro e w8 ⟨rfl, hb8⟩
    have HB8 : Hid (Below w.heap.size w w8) := HB7.out.trans (hb8.mono HB7.out.size)
    clear hb8 H14b H15b
    have q44 := nil44 w8
    have q34 := nil34 w8
    go_wp2
    go_ret
    exact ⟨rfl, HB8.out⟩
  · have hzz : ¬ (z : Int) = (y.toNat : Int) := by omega
    go_wp2_with fail
    obtain ⟨u, hue⟩ : ∃ u : UInt8, u.toNat = z := ⟨UInt8.ofNat z, by simp; omega⟩
    have hu : u ≠ y := by rintro rfl; omega
    rw [← hue]
    clear hue hzz hzy
    obtain ⟨hbs6, hb6⟩ := FIN.out u hu
    have H15b := hide (H15.out _ _ (F.set i u) hb6 hbs6 (HBC.out u hu))
    have HB6 := hide hb6
    have HBS6 := hide hbs6
    clear hb6 hbs6
    generalize w5.setCell ⟨g, i, none⟩ (.int .u8 u.toNat) = w6 at *
    refine H15b.out.mono ?_
    rintro e w7 ⟨rfl, hb7⟩
    have HB7 : Hid (Below w.heap.size w w7) := HB6.out.trans (hb7.mono HB6.out.size)
    have H14b := hide (H14.out w7 _ (F.set i u) HB7.out (HBS6.out.below hb7 (Nat.le_refl _)) (HBC.out u hu))
    clear hb7 FIN
    go_wp2_with fail
    refine H14b.out.mono ?_
    rintro e w8 ⟨rfl, hb8⟩
    have HB8 : Hid (Below w.heap.size w w8) := HB7.out.trans (hb8.mono HB7.out.size)
    clear hb8 H14b H15b
    have q44 := nil44 w8
    have q34 := nil34 w8
    go_wp2
    go_ret
    exact ⟨rfl, HB8.out⟩
end Go.Proofs.YtlghcldiboecoaaDoor

/- Spoilt answers true. -/
set_option linter.unusedVariables false
namespace Go.Proofs.YtlghcldiboecoaaDoor
open Go.RowKit

theorem spoilt_walk {Tabs : World → Prop} (U : Utf validB Tabs) (w : World) (hT : Tabs w) (hL : Table w) (hSc : Schemas w) (mx : Int) (hm : w.cell? ⟨4, 0, none⟩ = some (.int .i64 mx)) (h4 : 4 < w.heap.size)
    (rawv : Value) (raw : List Orch.Node) (hraw : Raw w rawv raw) (hlen : raw.length ≤ 9223372036854775807) (hrng : ∀ x, x ∈ raw → x.data.size ≤ 9223372036854775807 ∧ x.note.size ≤ 9223372036854775807 ∧ (-9223372036854775808 ≤ x.made ∧ x.made ≤ 9223372036854775807) ∧ (-9223372036854775808 ≤ x.changed ∧ x.changed ≤ 9223372036854775807) ∧ (-9223372036854775808 ≤ x.version ∧ x.version ≤ 9223372036854775807))
    (ati tov : Int) (ha0 : -9223372036854775808 ≤ ati) (ha1 : ati ≤ 9223372036854775807) (ht0 : -9223372036854775808 ≤ tov) (ht1 : tov ≤ 9223372036854775807) :
    Calls Tryd.prog 6 #[rawv, .int .i64 ati, .int .i64 tov] w fun e w' => e = .returned (.bool true) ∧ Below w.heap.size w w' := by
  have hload : ∀ W bv l, Below w.heap.size w W → BsAt W bv l → Bad l → Calls Tryd.prog 28 #[bv] W fun e w' => e = .returned (.tuple #[.int .i64 0, .int .i64 0, .slice none 0 0, .int .i64 7]) ∧ Below W.heap.size W w' := fun W bv l hW hbs hb =>
    load_bad U W (U.kept (U.size hT) hW hT) (hL.below hW hL.pos) (hSc.below hW (by omega)) mx ((hW.cell (p := ⟨4, 0, none⟩) h4).trans hm) (Nat.lt_of_lt_of_le h4 hW.size) bv l hbs hb
  refine spoilt_core w rawv ati tov ha0 ha1 ht0 ht1 ?_ ?_ ?_ ?_
  · refine (grown_any Grow grow_root (fun n ns h => grow_is h) (fun n ns x h hl hx => grow_step n ns x h hl hx) w rawv raw hraw hlen hrng).mono ?_
    rintro e w' ⟨⟨n, v, ns, rfl, hg, ho⟩, hb⟩
    exact ⟨n, v, ns, rfl, hg, ns_of_own ho (grow_is hg).1, hb⟩
  · intro W n v ns hW hg hns
    have hi := grow_is hg
    exact saved_2 U W (U.kept (U.size hT) hW hT) (hL.below hW hL.pos) (hSc.below hW (by omega)) mx ((hW.cell (p := ⟨4, 0, none⟩) h4).trans hm) (Nat.lt_of_lt_of_le h4 hW.size) n hi.2.2.1 (by omega) v ns hns (grow_tree hg)
      (fun x hx => by obtain ⟨a1, a2, a3, a4, _⟩ := grow_nd hg x hx; exact ⟨by omega, by omega⟩) (grow_nb hg)
  · intro W bv l hW hbs hb
    refine (oLoad_of W bv (fun a b v c w' => (a = 0 ∧ b = 0 ∧ v = .slice none 0 0 ∧ c = 7) ∧ Below W.heap.size W w') ((hload W bv l hW hbs hb).mono ?_)).mono ?_
    · rintro e w' ⟨rfl, hb'⟩
      exact ⟨0, 0, _, 7, rfl, ⟨rfl, rfl, rfl, rfl⟩, hb'⟩
    · rintro e w' ⟨a, b, v, c, rfl, ⟨rfl, rfl, rfl, rfl⟩, hb'⟩
      exact ⟨rfl, hb'⟩
  · intro W bv l hW hbs hb
    exact upgrade_bad W bv (fun w' => Below W.heap.size W w') (hload W bv l hW hbs hb)
end Go.Proofs.YtlghcldiboecoaaDoor
