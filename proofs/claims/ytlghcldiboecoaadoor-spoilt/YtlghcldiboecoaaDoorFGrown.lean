/- cut and plain, at ten bytes. -/
import Derived.Test.YtlghcldiboecoaaDoorAscii
import Derived.Test.YtlghcldiboecoaaDoorFInv2
import Derived.Deep.RegionHeld3
import Derived.Deep.Onto
set_option linter.unusedVariables false
namespace Go.Proofs.YtlghcldiboecoaaDoor
open Go.RowKit

theorem cut10_any (w : World) (s : ByteArray) (hs : s.size ≤ 9223372036854775807) :
    Calls Tryd.prog 23 #[.string s, .int .i64 10] w fun e w' => (∃ t : ByteArray, t.size ≤ 10 ∧ e = .returned (.string t)) ∧ w' = w := by
  by_cases h : 10 < s.size
  · have hz : (10 : Int) < s.size := by omega
    go_enter Tryd.func23, Tryd.ntmps23
    go_wp2
    all_goals go_ret
    exact ⟨⟨s.extract 0 10, by rw [ByteArray.size_extract]; omega, rfl⟩, rfl⟩
  · have hz : ¬ (10 : Int) < s.size := by omega
    go_enter Tryd.func23, Tryd.ntmps23
    go_wp2
    all_goals go_ret
    exact ⟨⟨s, by omega, rfl⟩, rfl⟩

set_option maxRecDepth 8000 in
set_option maxHeartbeats 1000000 in
theorem plain10_any (w : World) (s : ByteArray) (hs : s.size ≤ 10) :
    Calls Tryd.prog 24 #[.string s] w fun e w' => (∃ t : ByteArray, t.size ≤ 10 ∧ validB t = true ∧ e = .returned (.string t)) ∧ Below w.heap.size w w' := by
  have hconv : ∀ W, (convert 9 34 (.string s)).run Tryd.prog W = .ok (.slice (some ⟨W.heap.size, 0, none⟩) s.size (grownCap W s.size 0 5)) (Lib.bytesWorld W 5 s) := fun W => Lib.run_convert_string_bytes W 9 34 5 s Tryd.underlying9 Tryd.underlying34 Tryd.underlying5
  have HR : Hid (Row (Lib.bytesWorld w 5 s) w.heap.size s.data.toList) := row_new w s
  have HB : Hid (Below w.heap.size w (Lib.bytesWorld w 5 s)) := ⟨rfl, rfl, rfl, by rw [Lib.bytesWorld_size]; omega, fun k hk => Lib.bytesWorld_at_old w 5 s k hk⟩
  have hcap : s.size ≤ grownCap w s.size 0 5 := grownCap_ge _ _ _ _
  have HCV : Hid (∀ W l, l.length = s.size → Row W w.heap.size l → (convert 34 9 (.slice (some ⟨w.heap.size, 0, none⟩) s.size (grownCap w s.size 0 5))).run Tryd.prog W = .ok (.string ⟨l.toArray⟩) W) := fun W l hl h => by rw [← hl]; exact conv_row h
  have hlen : s.data.toList.length = s.size := rfl
  go_enter Tryd.func24, Tryd.ntmps24
  go_wp2_with fail
  clear hconv
  generalize grownCap w s.size 0 5 = C at *
  generalize s.size = ln at *
  go_loopw [4] (fun i wr => ∃ (k : Nat) (l : List UInt8), i = .int .i64 k ∧ k ≤ ln ∧ l.length = ln ∧ Hid (Row wr w.heap.size l) ∧ Hid (Below w.heap.size w wr) ∧ Hid (∀ j (h : j < l.length), j < k → l[j].toNat < 128))
    (fun i _ => ln - (intOf i).toNat)
  case atStart => exact ⟨0, s.data.toList, rfl, Nat.zero_le _, hlen, HR, HB, fun j h hj => by omega⟩
  case round =>
    obtain ⟨k, l, rfl, hk, hl, HR', HB', HA⟩ := hrel
    by_cases hlt : k < ln
    · have c0 := HR'.out.cell k (by omega)
      have f0 := HR'.out.free k (by omega)
      have hkz : (k : Int) < ln := by omega
      have hc8 : l[k].toNat < 256 := UInt8.toNat_lt _
      have HN : Hid (Row (wr.setCell ⟨w.heap.size, k, none⟩ (.int .u8 ((l[k].toNat : Int) % 128))) w.heap.size (l.set k (UInt8.ofNat (l[k].toNat % 128)))) := by
        have h1 := HR'.out.set k (by omega) (UInt8.ofNat (l[k].toNat % 128))
        have e : ((UInt8.ofNat (l[k].toNat % 128)).toNat : Int) = (l[k].toNat : Int) % 128 := by
          simp only [UInt8.toNat_ofNat']
          omega
        rw [e] at h1
        exact h1
      have HN2 : Hid (Below w.heap.size w (wr.setCell ⟨w.heap.size, k, none⟩ (.int .u8 ((l[k].toNat : Int) % 128)))) :=
        HB'.out.trans ⟨rfl, rfl, rfl, by simp [World.setCell], fun j hj => heap_setCell_other wr _ j _ (Nat.ne_of_lt hj)⟩
      have HN3 : Hid (∀ j (h : j < (l.set k (UInt8.ofNat (l[k].toNat % 128))).length), j < k + 1 → (l.set k (UInt8.ofNat (l[k].toNat % 128)))[j].toNat < 128) := fun j h hj => by
        rw [List.getElem_set]
        split
        · simp only [UInt8.toNat_ofNat']
          omega
        · rw [List.length_set] at h
          exact HA.out j h (by omega)
      generalize hX : (l[k].toNat : Int) = X at *
      go_wp2
      go_round
      case rel => exact ⟨k + 1, _, by go_num, by omega, by rw [List.length_set]; exact hl, HN, HN2, HN3⟩
      case measure => first | (simp [intOf]; done) | (simp [intOf]; omega)
    · have hkz : ¬ (k : Int) < ln := by omega
      have hcv := HCV.out wr l hl HR'.out
      have HV : Hid (validB ⟨l.toArray⟩ = true) := ascii_valid l fun c hc => by
        obtain ⟨j, hj, rfl⟩ := List.getElem_of_mem hc
        exact HA.out j hj (by omega)
      go_wp2
      go_ret
      exact ⟨⟨⟨l.toArray⟩, by show l.toArray.size ≤ 10; simp; omega, HV.out, rfl⟩, HB'.out⟩
end Go.Proofs.YtlghcldiboecoaaDoor

/- grown: a tree out of raw nodes. -/
set_option linter.unusedVariables false
namespace Go.Proofs.YtlghcldiboecoaaDoor
open Go.RowKit

theorem set_block {w : World} {g j : Nat} {cs : Array Value} {t : TypeId} (h : w.heap[g]? = some (.cells cs t)) (v : Value) : (w.setCell ⟨g, j, none⟩ v).heap[g]? = some (.cells (cs.setIfInBounds j v) t) := by simp [World.setCell, Array.getElem?_modify, h]

/-- What grown leaves. -/
def grRes (Inv : Int → List Orch.Node → Prop) (w w' : World) (e : Ending) : Prop := ∃ n v ns, e = .returned (.tuple #[.int .i64 n, v]) ∧ Inv n ns ∧ w'.ownsRow w.heap.size 69 6 v ns.length (ns.flatMap ncell)

def Raw (w : World) (v : Value) (raw : List Orch.Node) : Prop := (raw = [] ∧ ∃ a c, v = .slice a 0 c) ∨ NsAt w w.heap.size v raw

set_option maxRecDepth 8000 in
set_option maxHeartbeats 4000000 in
theorem grown_any (Inv : Int → List Orch.Node → Prop) (hi0 : Inv 0 [root]) (hil : ∀ n ns, Inv n ns → 1 ≤ ns.length ∧ ns.length ≤ 32 ∧ 0 ≤ n ∧ n ≤ 1000000 ∧ ∀ x, x ∈ ns → x.path.size ≤ 24)
    (his : ∀ n ns x, Inv n ns → ns.length < 32 → NewN ns x → Inv (if n < x.changed then x.changed else n) (insN x ns))
    (w : World) (rawv : Value) (raw : List Orch.Node) (hraw : Raw w rawv raw) (hlen : raw.length ≤ 9223372036854775807) (hrng : ∀ x, x ∈ raw → x.data.size ≤ 9223372036854775807 ∧ x.note.size ≤ 9223372036854775807 ∧ (-9223372036854775808 ≤ x.made ∧ x.made ≤ 9223372036854775807) ∧ (-9223372036854775808 ≤ x.changed ∧ x.changed ≤ 9223372036854775807) ∧ (-9223372036854775808 ≤ x.version ∧ x.version ≤ 9223372036854775807)) :
    Calls Tryd.prog 12 #[rawv, .bool true] w fun e w' => grRes Inv w w' e ∧ Below w.heap.size w w' := by
  obtain ⟨ra, rc, rfl⟩ : ∃ a c, rawv = .slice a raw.length c := by
    rcases hraw with ⟨h, a, c, e⟩ | ⟨b, off, cap, e, _⟩
    · exact ⟨a, c, by rw [e, h]; rfl⟩
    · exact ⟨_, _, e⟩
  have HRAW : Hid (∀ W, Below w.heap.size w W → ∀ i (h : i < raw.length), ∃ b off, ra = some ⟨b, off, none⟩ ∧ b < w.heap.size ∧ raw.length ≤ rc ∧ ∀ j u, (ncell raw[i])[j]? = some u → W.cell? ⟨b, off + i * 6 + j, none⟩ = some u) := fun W hW i hi => by
    rcases hraw with ⟨h, _⟩ | h
    · rw [h] at hi; simp at hi
    · obtain ⟨b, off, cap, e, hc, hlt, hn⟩ := h.below hW
      simp only [Value.slice.injEq] at e
      obtain ⟨rfl, _, rfl⟩ := e
      exact ⟨b, off, rfl, hlt, hc, fun j u hu => hn i hi j u hu⟩
  have HRNG := hide hrng
  have HIL := hide hil
  have HIS := hide his
  have HI0 := hide hi0
  have hroot : (w.alloc (.cells #[.string ⟨#[47]⟩, .string ⟨#[]⟩, .string ⟨#[]⟩, .int .i64 0, .int .i64 0, .int .i64 0] 69)).ownsRow w.heap.size 69 6 (.slice (some ⟨w.heap.size, 0, none⟩) 1 1) 1 (ncell root) :=
    ⟨rfl, .inr ⟨w.heap.size, 1, _, rfl, Nat.le_refl _, heap_alloc_new w _, Nat.le_refl _, by decide, rfl, rfl⟩⟩
  have HROOT := hide hroot
  have HB0 : Hid (Below w.heap.size w (w.alloc (.cells #[.string ⟨#[47]⟩, .string ⟨#[]⟩, .string ⟨#[]⟩, .int .i64 0, .int .i64 0, .int .i64 0] 69))) := below1 _ _
  clear hroot hraw hrng hil his hi0
  go_enter Tryd.func12, Tryd.ntmps12
  go_wp2_with fail
  generalize w.alloc (.cells #[.string ⟨#[47]⟩, .string ⟨#[]⟩, .string ⟨#[]⟩, .int .i64 0, .int .i64 0, .int .i64 0] 69) = w0 at *
  go_loopw [6, 7, 8] (fun lv nn i wr => ∃ (k : Nat) (n : Int) (ns : List Orch.Node), k ≤ raw.length ∧ i = .int .i64 k ∧ nn = .int .i64 n ∧ Hid (Inv n ns) ∧ Hid (wr.ownsRow w.heap.size 69 6 lv ns.length (ns.flatMap ncell)) ∧ Hid (Below w.heap.size w wr))
    (fun _ _ i _ => raw.length - (intOf i).toNat)
  case atStart => exact ⟨0, 0, [root], Nat.zero_le _, rfl, rfl, HI0, HROOT, HB0⟩
  case round =>
    obtain ⟨k, n, ns, hk, rfl, rfl, HI, HO, HB⟩ := hrel
    obtain ⟨hl1, hl32, hn0, hn1, hps⟩ := HIL.out _ _ HI.out
    obtain ⟨qa, qc, hqv⟩ : ∃ a c, u6 = .slice a ns.length c := by
      rcases HO.out.2 with ⟨e, h⟩ | ⟨g, cap, cur, e, _⟩
      · exact ⟨none, 0, by rw [e, h]⟩
      · exact ⟨_, _, e⟩
    subst hqv
    by_cases hlt : k < raw.length
    · by_cases hfull : ns.length < 32
      · have hkz : (k : Int) < (raw.length : Int) := by omega
        have hfz : (ns.length : Int) < 32 := by omega
        obtain ⟨b, off, rfl, hblt, hrc, hc⟩ := HRAW.out wr HB.out k hlt
        have c0 := hc 0 _ rfl
        have c1 := hc 1 _ rfl
        have c2 := hc 2 _ rfl
        have c3 := hc 3 _ rfl
        have c4 := hc 4 _ rfl
        have c5 := hc 5 _ rfl
        rw [Nat.add_zero] at c0
        obtain ⟨hrd, hrt, ⟨hm0, hm1⟩, ⟨hch0, hch1⟩, ⟨hv0, hv1⟩⟩ := HRNG.out raw[k] (List.getElem_mem hlt)
        generalize raw[k] = x at *
        obtain ⟨rp, rd, rt, rm, rch, rv⟩ := x
        simp only at c0 c1 c2 c3 c4 c5 hrd hrt hm0 hm1 hch0 hch1 hv0 hv1
        have HPS := hide hps
        clear hc hps
        go_wp2_with fail
        have hA := heap_alloc_new wr (.cells #[.string rp, .string rd, .string rt, .int .i64 rm, .int .i64 rch, .int .i64 rv] 69)
        have hbA := below1 wr (.cells #[.string rp, .string rd, .string rt, .int .i64 rm, .int .i64 rch, .int .i64 rv] 69)
        refine (small_any _ rm hm0 hm1).mono ?_
        rintro e w1 ⟨⟨c, hc0, hc1, rfl⟩, hb1⟩
        have hA1 := (hb1.block _ (ltOf hA)).trans hA
        have hbw1 : Below wr.heap.size wr w1 := hbA.trans (hb1.mono (by simp))
        have HO1 := hide (ownsRow_below HO.out hbw1)
        have HB1 : Hid (Below w.heap.size w w1) := HB.out.trans (hbw1.mono HB.out.size)
        have HA1 := hide hA1
        have a1 := cellOf (j := 1) hA1 rfl
        have a2 := cellOf (j := 2) hA1 rfl
        have a3 := cellOf (j := 3) hA1 rfl
        have a4 := cellOf (j := 4) hA1 rfl
        have a5 := cellOf (j := 5) hA1 rfl
        have hG1 : Hid (w.heap.size ≤ wr.heap.size) := HB.out.size
        have hstr : (⟨#[47]⟩ : ByteArray) ++ ⟨#[c]⟩ = ⟨#[47, c]⟩ := rfl
        clear hA hbA hb1 hA1 hbw1 c0 c1 c2 c3 c4 c5 HB HO
        generalize wr.heap.size = A9 at *
        go_wp2_with fail
        refine (pick_any w1 rch ns.length hch0 hch1 (by omega) (by omega)).mono ?_
        rintro e w1' ⟨⟨z, hz, rfl⟩, hw1⟩
        have hw2 := hw1.symm
        clear hw1
        subst hw2
        have hNS := ns_of_own HO1.out hl1
        obtain ⟨g, o1, p1, e1, hgc, _, hcz⟩ := hNS
        simp only [Value.slice.injEq, true_and] at e1
        obtain ⟨rfl, rfl⟩ := e1
        have z0 := hcz z hz 0 _ rfl
        rw [Nat.add_zero] at z0
        have hzs := HPS.out ns[z] (List.getElem_mem hz)
        have HP1 : Hid (∀ PP : ByteArray, PP = ns[z].path ++ ⟨#[47, c]⟩ → 0 < z → ns[z].path.size < 20 → ∃ c : UInt8, 97 ≤ c.toNat ∧ c.toNat ≤ 116 ∧ (PP = ⟨#[47, c]⟩ ∨ ∃ j, ∃ h : j < ns.length, 0 < j ∧ ns[j].path.size < 20 ∧ PP = ns[j].path ++ ⟨#[47, c]⟩)) := fun PP h1 h2 h3 => ⟨c, hc0, hc1, .inr ⟨z, hz, h2, h3, h1⟩⟩
        have HP2 : Hid (∀ PP : ByteArray, PP = ⟨#[47, c]⟩ → ∃ c : UInt8, 97 ≤ c.toNat ∧ c.toNat ≤ 116 ∧ (PP = ⟨#[47, c]⟩ ∨ ∃ j, ∃ h : j < ns.length, 0 < j ∧ ns[j].path.size < 20 ∧ PP = ns[j].path ++ ⟨#[47, c]⟩)) := fun PP h1 => ⟨c, hc0, hc1, .inl h1⟩
        have h2c : (⟨#[47, c]⟩ : ByteArray).size = 2 := rfl
        clear hcz hstr
        generalize hzp : ns[z].path = ZP at *
        generalize hcp : (⟨#[47, c]⟩ : ByteArray) = CP at *
        clear hzp hcp hc0 hc1
        have HPKV : Hid (∀ W, Calls Tryd.prog 11 #[.int .i64 rv, .int .i64 2147483648] W fun e w' => ∃ zv : Int, (0 ≤ zv ∧ zv ≤ 2147483647) ∧ e = .returned (.int .i64 zv) ∧ w' = W) := fun W => (pick_any W rv 2147483648 hv0 hv1 (by omega) (by omega)).mono (by
          rintro e w' ⟨⟨z, hz, rfl⟩, rfl⟩
          exact ⟨z, ⟨by omega, by omega⟩, rfl, rfl⟩)
        have HCUT : Hid (∀ W, Calls Tryd.prog 23 #[.string rd, .int .i64 40] W fun e w' => ∃ dd : ByteArray, dd.size ≤ 40 ∧ e = .returned (.string dd) ∧ w' = W) := fun W => (cut_any W rd (by omega)).mono (by
          rintro e w' ⟨⟨t, ht, rfl⟩, rfl⟩
          exact ⟨t, ht, rfl, rfl⟩)
        have hfork : (0 < (z : Int) ∧ (ZP.size : Int) < 20) ∨ (0 < (z : Int) ∧ ¬ (ZP.size : Int) < 20) ∨ ¬ 0 < (z : Int) := by omega
        rcases hfork with ⟨hf1, hf2⟩ | ⟨hf1, hf2⟩ | hf1
        · have HPP := hide (HP1.out (ZP ++ CP) rfl (by omega) (by omega))
          go_wp2_with fail
          generalize ZP ++ CP = PP at *
          clear HP1 HP2 hf1 hf2 z0 h2c hzs
          have hn1 := World.new_ne w1 _ a1
          have hn5 := World.new_ne w1 _ a5
          go_region_held3 (fun W => W.cell? ⟨A9, 1, none⟩ = some (.string rd) ∧ W.cell? ⟨A9, 5, none⟩ = some (.int .i64 rv)) (go_keep) (first
            | (go_at_call 23; refine (HCUT.out _).mono ?_; rintro e w2 ⟨dd, hdd, rfl, hw2⟩; have HDD := hide hdd; have hw3 := hw2.symm; clear hw2 hdd; subst hw3)
            | (go_at_call 11; refine (HPKV.out _).mono ?_; rintro e w2 ⟨zv, hzv, rfl, hw2⟩; have HZV := hide hzv; have hw3 := hw2.symm; clear hw2 hzv; subst hw3))
          all_goals (
            obtain ⟨O2, hO2⟩ : ∃ o : Obj, o = .cells #[.string PP, .string dd, .string ⟨#[]⟩, .int .i64 0, .int .i64 0, .int .i64 zv] 69 := ⟨_, rfl⟩
            have hN2 : (w1.alloc (.cells #[.string PP, .string dd, .string ⟨#[]⟩, .int .i64 0, .int .i64 0, .int .i64 zv] 69)).drew.heap[w1.heap.size]? = some (.cells #[.string PP, .string dd, .string ⟨#[]⟩, .int .i64 0, .int .i64 0, .int .i64 zv] 69) := heap_alloc_new w1 _
            have HW2 : Hid (Below w1.heap.size w1 (w1.alloc (.cells #[.string PP, .string dd, .string ⟨#[]⟩, .int .i64 0, .int .i64 0, .int .i64 zv] 69)).drew) := (below1 w1 _).drew
            have HOK : Hid (∀ W, Below w1.heap.size w1 W → W.ownsRow w.heap.size 69 6 (.slice (some ⟨g, o1, none⟩) ns.length qc) ns.length (ns.flatMap ncell)) := fun W h => ownsRow_below HO1.out h
            have HAK : Hid (∀ W, Below w1.heap.size w1 W → W.heap[A9]? = some (.cells #[.string rp, .string rd, .string rt, .int .i64 rm, .int .i64 rch, .int .i64 rv] 69)) := fun W h => (h.block _ (ltOf HA1.out)).trans HA1.out
            have HBK : Hid (∀ W, Below w1.heap.size w1 W → Below w.heap.size w W) := fun W h => HB1.out.trans (h.mono HB1.out.size)
            have hAB : ¬ A9 = w1.heap.size := by have := ltOf HA1.out; omega
            have hBA : ¬ w1.heap.size = A9 := fun e => hAB e.symm
            clear HA1 HB1 HO1 a1 a2 a3 a4 a5 hn1 hn5 hO2
            generalize (w1.alloc (.cells #[.string PP, .string dd, .string ⟨#[]⟩, .int .i64 0, .int .i64 0, .int .i64 zv] 69)).drew = w2 at *
            generalize w1.heap.size = B9 at *
            have q2 := cellOf (j := 2) (HAK.out w2 HW2.out) rfl
            have HN2 := hide hN2
            clear hN2
            go_wp2_with fail
            refine (cut10_any w2 rt (by omega)).mono ?_
            rintro e w3 ⟨⟨tt, htt, rfl⟩, hw3⟩
            have hw4 := hw3.symm
            clear hw3
            subst hw4
            go_wp2_with fail
            refine (plain10_any w2 tt htt).mono ?_
            rintro e w3 ⟨⟨t, ht, htv, rfl⟩, hb3⟩
            have hN3 := (hb3.block _ (ltOf HN2.out)).trans HN2.out
            have HW3 : Hid (Below B9 w1 w3) := HW2.out.trans (hb3.mono (Nat.le_of_lt (ltOf HN2.out)))
            have HT := hide (And.intro ht htv)
            have f2 := frozenOf (j := 2) hN3
            have k2 := cellOf (j := 2) hN3 rfl
            have q3 := cellOf (j := 3) (HAK.out w3 HW3.out) rfl
            have HN4 : Hid ((w3.setCell ⟨B9, 2, none⟩ (.string t)).heap[B9]? = some (.cells #[.string PP, .string dd, .string t, .int .i64 0, .int .i64 0, .int .i64 zv] 69)) := set_block hN3 _
            have HW4 : Hid (Below B9 w1 (w3.setCell ⟨B9, 2, none⟩ (.string t))) := HW3.out.setCell (p := ⟨B9, 2, none⟩) (Nat.le_refl _) _
            clear hN3 hb3 ht htv q2 HN2 HW2
            go_wp2_with fail
            generalize w3.setCell ⟨B9, 2, none⟩ (.string t) = w4 at *
            clear f2 k2 q3 HW3
            refine (pick_any w4 rm 1000 hm0 hm1 (by omega) (by omega)).mono ?_
            rintro e w5 ⟨⟨mm, hmm, rfl⟩, hw5⟩
            have hw6 := hw5.symm
            clear hw5
            subst hw6
            have f3 := frozenOf (j := 3) HN4.out
            have k3 := cellOf (j := 3) HN4.out rfl
            have HN5 : Hid ((w4.setCell ⟨B9, 3, none⟩ (.int .i64 mm)).heap[B9]? = some (.cells #[.string PP, .string dd, .string t, .int .i64 mm, .int .i64 0, .int .i64 zv] 69)) := set_block HN4.out _
            have HW5 : Hid (Below B9 w1 (w4.setCell ⟨B9, 3, none⟩ (.int .i64 mm))) := HW4.out.setCell (p := ⟨B9, 3, none⟩) (Nat.le_refl _) _
            clear HN4 HW4
            go_wp2_with fail
            generalize w4.setCell ⟨B9, 3, none⟩ (.int .i64 mm) = w5 at *
            clear f3 k3
            have q4 := cellOf (j := 4) (HAK.out w5 HW5.out) rfl
            have k3 := cellOf (j := 3) HN5.out rfl
            have k4 := cellOf (j := 4) HN5.out rfl
            have f4 := frozenOf (j := 4) HN5.out
            have hmz : (0 : Int) ≤ (mm : Int) ∧ (mm : Int) ≤ 999 := by omega
            have HPKC : Hid (∀ W, Calls Tryd.prog 11 #[.int .i64 rch, .int .i64 1000] W fun e w' => ∃ zc : Int, (0 ≤ zc ∧ zc ≤ 999) ∧ e = .returned (.int .i64 zc) ∧ w' = W) := fun W => (pick_any W rch 1000 hch0 hch1 (by omega) (by omega)).mono (by
              rintro e w' ⟨⟨z, hz, rfl⟩, rfl⟩
              exact ⟨z, ⟨by omega, by omega⟩, rfl, rfl⟩)
            have KK : Hid (∀ v, (w5.setCell ⟨B9, 4, none⟩ v).drew.cell? ⟨B9, 3, none⟩ = some (.int .i64 mm) ∧ (w5.setCell ⟨B9, 4, none⟩ v).drew.cell? ⟨A9, 4, none⟩ = some (.int .i64 rch)) := fun v =>
              ⟨cellOf (W := (w5.setCell ⟨B9, 4, none⟩ v)) (j := 3) (set_block HN5.out v) rfl, cellOf (W := (w5.setCell ⟨B9, 4, none⟩ v)) (j := 4) (HAK.out _ (HW5.out.setCell (p := ⟨B9, 4, none⟩) (Nat.le_refl _) v)) rfl⟩
            go_region_held3 (fun W => W.cell? ⟨B9, 3, none⟩ = some (.int .i64 mm) ∧ W.cell? ⟨A9, 4, none⟩ = some (.int .i64 rch)) (first | (go_keep; done) | exact KK.out _ | (exact ⟨(KK.out _).1, (KK.out _).2⟩)) ((go_at_call 11; refine (HPKC.out _).mono ?_; rintro e w6 ⟨zc, ⟨hc0, hc1⟩, rfl, hw6⟩; have hw7 := hw6.symm; clear hw6; subst hw7))
            have hwr : IntKind.i64.wrap ((mm : Int) + zc) = (mm : Int) + zc := by rw [IntKind.wrap_i64]; omega
            rw [hwr]
            have HN6 : Hid ((w5.setCell ⟨B9, 4, none⟩ (.int .i64 ((mm : Int) + zc))).drew.heap[B9]? = some (.cells #[.string PP, .string dd, .string t, .int .i64 mm, .int .i64 ((mm : Int) + zc), .int .i64 zv] 69)) := set_block HN5.out _
            have HW6 : Hid (Below B9 w1 (w5.setCell ⟨B9, 4, none⟩ (.int .i64 ((mm : Int) + zc))).drew) := (HW5.out.setCell (p := ⟨B9, 4, none⟩) (Nat.le_refl _) _).drew
            clear KK HPKC hwr q4 k3 k4 f4 HN5 HW5
            generalize (w5.setCell ⟨B9, 4, none⟩ (.int .i64 ((mm : Int) + zc))).drew = w6 at *
            have hchb : (mm : Int) ≤ (mm : Int) + zc ∧ (mm : Int) + zc ≤ (mm : Int) + 999 := by omega
            generalize (mm : Int) + zc = ch at *
            have k0 := cellOf (j := 0) HN6.out rfl
            have k1 := cellOf (j := 1) HN6.out rfl
            have k2 := cellOf (j := 2) HN6.out rfl
            have k3 := cellOf (j := 3) HN6.out rfl
            have k4 := cellOf (j := 4) HN6.out rfl
            have k5 := cellOf (j := 5) HN6.out rfl
            have HST : Hid (Inv (if n < ch then ch else n) (insN ⟨PP, dd, t, mm, ch, zv⟩ ns)) := HIS.out n ns ⟨PP, dd, t, mm, ch, zv⟩ HI.out hfull ⟨HPP.out, HDD.out, HT.out.1, HT.out.2, hmz.1, hmz.2, hchb.1, hchb.2, HZV.out.1, HZV.out.2⟩
            have HPUT := hide (put_any w6 (.slice (some ⟨g, o1, none⟩) ns.length qc) ns (ns_of_own (HOK.out w6 HW6.out) hl1) (by omega) ⟨PP, dd, t, mm, ch, zv⟩)
            have HB6 : Hid (Below w.heap.size w w6) := HBK.out w6 HW6.out
            clear HN6 HW6 HOK HAK HBK HPS hmz hchb
            by_cases hgr : n < ch
            · go_wp2_with (go_at_call 25; refine HPUT.out.mono ?_; rintro e w7 ⟨⟨v7, rfl, ho7⟩, hb7⟩; have HO7 : Hid (w7.ownsRow w.heap.size 69 6 v7 (insN ⟨PP, dd, t, mm, ch, zv⟩ ns).length ((insN ⟨PP, dd, t, mm, ch, zv⟩ ns).flatMap ncell)) := ho7.mono HB6.out.size; have HB7 : Hid (Below w.heap.size w w7) := HB6.out.trans (hb7.mono HB6.out.size); clear ho7 hb7)
              exact ⟨⟨k + 1, ch, insN ⟨PP, dd, t, mm, ch, zv⟩ ns, by omega, by go_num, rfl, by have := HST.out; rw [if_pos hgr] at this; exact this, HO7, HB7⟩, by first | (simp [intOf]; done) | (simp [intOf]; omega)⟩
            · go_wp2_with (go_at_call 25; refine HPUT.out.mono ?_; rintro e w7 ⟨⟨v7, rfl, ho7⟩, hb7⟩; have HO7 : Hid (w7.ownsRow w.heap.size 69 6 v7 (insN ⟨PP, dd, t, mm, ch, zv⟩ ns).length ((insN ⟨PP, dd, t, mm, ch, zv⟩ ns).flatMap ncell)) := ho7.mono HB6.out.size; have HB7 : Hid (Below w.heap.size w w7) := HB6.out.trans (hb7.mono HB6.out.size); clear ho7 hb7)
              exact ⟨⟨k + 1, n, insN ⟨PP, dd, t, mm, ch, zv⟩ ns, by omega, by go_num, rfl, by have := HST.out; rw [if_neg (by omega)] at this; exact this, HO7, HB7⟩, by first | (simp [intOf]; done) | (simp [intOf]; omega)⟩)
        · have HPP := hide (HP2.out CP rfl)
          go_wp2_with fail
          generalize CP = PP at *
          clear HP1 HP2 hf1 hf2 z0 h2c hzs
          have hn1 := World.new_ne w1 _ a1
          have hn5 := World.new_ne w1 _ a5
          go_region_held3 (fun W => W.cell? ⟨A9, 1, none⟩ = some (.string rd) ∧ W.cell? ⟨A9, 5, none⟩ = some (.int .i64 rv)) (go_keep) (first
            | (go_at_call 23; refine (HCUT.out _).mono ?_; rintro e w2 ⟨dd, hdd, rfl, hw2⟩; have HDD := hide hdd; have hw3 := hw2.symm; clear hw2 hdd; subst hw3)
            | (go_at_call 11; refine (HPKV.out _).mono ?_; rintro e w2 ⟨zv, hzv, rfl, hw2⟩; have HZV := hide hzv; have hw3 := hw2.symm; clear hw2 hzv; subst hw3))
          all_goals (
            obtain ⟨O2, hO2⟩ : ∃ o : Obj, o = .cells #[.string PP, .string dd, .string ⟨#[]⟩, .int .i64 0, .int .i64 0, .int .i64 zv] 69 := ⟨_, rfl⟩
            have hN2 : (w1.alloc (.cells #[.string PP, .string dd, .string ⟨#[]⟩, .int .i64 0, .int .i64 0, .int .i64 zv] 69)).drew.heap[w1.heap.size]? = some (.cells #[.string PP, .string dd, .string ⟨#[]⟩, .int .i64 0, .int .i64 0, .int .i64 zv] 69) := heap_alloc_new w1 _
            have HW2 : Hid (Below w1.heap.size w1 (w1.alloc (.cells #[.string PP, .string dd, .string ⟨#[]⟩, .int .i64 0, .int .i64 0, .int .i64 zv] 69)).drew) := (below1 w1 _).drew
            have HOK : Hid (∀ W, Below w1.heap.size w1 W → W.ownsRow w.heap.size 69 6 (.slice (some ⟨g, o1, none⟩) ns.length qc) ns.length (ns.flatMap ncell)) := fun W h => ownsRow_below HO1.out h
            have HAK : Hid (∀ W, Below w1.heap.size w1 W → W.heap[A9]? = some (.cells #[.string rp, .string rd, .string rt, .int .i64 rm, .int .i64 rch, .int .i64 rv] 69)) := fun W h => (h.block _ (ltOf HA1.out)).trans HA1.out
            have HBK : Hid (∀ W, Below w1.heap.size w1 W → Below w.heap.size w W) := fun W h => HB1.out.trans (h.mono HB1.out.size)
            have hAB : ¬ A9 = w1.heap.size := by have := ltOf HA1.out; omega
            have hBA : ¬ w1.heap.size = A9 := fun e => hAB e.symm
            clear HA1 HB1 HO1 a1 a2 a3 a4 a5 hn1 hn5 hO2
            generalize (w1.alloc (.cells #[.string PP, .string dd, .string ⟨#[]⟩, .int .i64 0, .int .i64 0, .int .i64 zv] 69)).drew = w2 at *
            generalize w1.heap.size = B9 at *
            have q2 := cellOf (j := 2) (HAK.out w2 HW2.out) rfl
            have HN2 := hide hN2
            clear hN2
            go_wp2_with fail
            refine (cut10_any w2 rt (by omega)).mono ?_
            rintro e w3 ⟨⟨tt, htt, rfl⟩, hw3⟩
            have hw4 := hw3.symm
            clear hw3
            subst hw4
            go_wp2_with fail
            refine (plain10_any w2 tt htt).mono ?_
            rintro e w3 ⟨⟨t, ht, htv, rfl⟩, hb3⟩
            have hN3 := (hb3.block _ (ltOf HN2.out)).trans HN2.out
            have HW3 : Hid (Below B9 w1 w3) := HW2.out.trans (hb3.mono (Nat.le_of_lt (ltOf HN2.out)))
            have HT := hide (And.intro ht htv)
            have f2 := frozenOf (j := 2) hN3
            have k2 := cellOf (j := 2) hN3 rfl
            have q3 := cellOf (j := 3) (HAK.out w3 HW3.out) rfl
            have HN4 : Hid ((w3.setCell ⟨B9, 2, none⟩ (.string t)).heap[B9]? = some (.cells #[.string PP, .string dd, .string t, .int .i64 0, .int .i64 0, .int .i64 zv] 69)) := set_block hN3 _
            have HW4 : Hid (Below B9 w1 (w3.setCell ⟨B9, 2, none⟩ (.string t))) := HW3.out.setCell (p := ⟨B9, 2, none⟩) (Nat.le_refl _) _
            clear hN3 hb3 ht htv q2 HN2 HW2
            go_wp2_with fail
            generalize w3.setCell ⟨B9, 2, none⟩ (.string t) = w4 at *
            clear f2 k2 q3 HW3
            refine (pick_any w4 rm 1000 hm0 hm1 (by omega) (by omega)).mono ?_
            rintro e w5 ⟨⟨mm, hmm, rfl⟩, hw5⟩
            have hw6 := hw5.symm
            clear hw5
            subst hw6
            have f3 := frozenOf (j := 3) HN4.out
            have k3 := cellOf (j := 3) HN4.out rfl
            have HN5 : Hid ((w4.setCell ⟨B9, 3, none⟩ (.int .i64 mm)).heap[B9]? = some (.cells #[.string PP, .string dd, .string t, .int .i64 mm, .int .i64 0, .int .i64 zv] 69)) := set_block HN4.out _
            have HW5 : Hid (Below B9 w1 (w4.setCell ⟨B9, 3, none⟩ (.int .i64 mm))) := HW4.out.setCell (p := ⟨B9, 3, none⟩) (Nat.le_refl _) _
            clear HN4 HW4
            go_wp2_with fail
            generalize w4.setCell ⟨B9, 3, none⟩ (.int .i64 mm) = w5 at *
            clear f3 k3
            have q4 := cellOf (j := 4) (HAK.out w5 HW5.out) rfl
            have k3 := cellOf (j := 3) HN5.out rfl
            have k4 := cellOf (j := 4) HN5.out rfl
            have f4 := frozenOf (j := 4) HN5.out
            have hmz : (0 : Int) ≤ (mm : Int) ∧ (mm : Int) ≤ 999 := by omega
            have HPKC : Hid (∀ W, Calls Tryd.prog 11 #[.int .i64 rch, .int .i64 1000] W fun e w' => ∃ zc : Int, (0 ≤ zc ∧ zc ≤ 999) ∧ e = .returned (.int .i64 zc) ∧ w' = W) := fun W => (pick_any W rch 1000 hch0 hch1 (by omega) (by omega)).mono (by
              rintro e w' ⟨⟨z, hz, rfl⟩, rfl⟩
              exact ⟨z, ⟨by omega, by omega⟩, rfl, rfl⟩)
            have KK : Hid (∀ v, (w5.setCell ⟨B9, 4, none⟩ v).drew.cell? ⟨B9, 3, none⟩ = some (.int .i64 mm) ∧ (w5.setCell ⟨B9, 4, none⟩ v).drew.cell? ⟨A9, 4, none⟩ = some (.int .i64 rch)) := fun v =>
              ⟨cellOf (W := (w5.setCell ⟨B9, 4, none⟩ v)) (j := 3) (set_block HN5.out v) rfl, cellOf (W := (w5.setCell ⟨B9, 4, none⟩ v)) (j := 4) (HAK.out _ (HW5.out.setCell (p := ⟨B9, 4, none⟩) (Nat.le_refl _) v)) rfl⟩
            go_region_held3 (fun W => W.cell? ⟨B9, 3, none⟩ = some (.int .i64 mm) ∧ W.cell? ⟨A9, 4, none⟩ = some (.int .i64 rch)) (first | (go_keep; done) | exact KK.out _ | (exact ⟨(KK.out _).1, (KK.out _).2⟩)) ((go_at_call 11; refine (HPKC.out _).mono ?_; rintro e w6 ⟨zc, ⟨hc0, hc1⟩, rfl, hw6⟩; have hw7 := hw6.symm; clear hw6; subst hw7))
            have hwr : IntKind.i64.wrap ((mm : Int) + zc) = (mm : Int) + zc := by rw [IntKind.wrap_i64]; omega
            rw [hwr]
            have HN6 : Hid ((w5.setCell ⟨B9, 4, none⟩ (.int .i64 ((mm : Int) + zc))).drew.heap[B9]? = some (.cells #[.string PP, .string dd, .string t, .int .i64 mm, .int .i64 ((mm : Int) + zc), .int .i64 zv] 69)) := set_block HN5.out _
            have HW6 : Hid (Below B9 w1 (w5.setCell ⟨B9, 4, none⟩ (.int .i64 ((mm : Int) + zc))).drew) := (HW5.out.setCell (p := ⟨B9, 4, none⟩) (Nat.le_refl _) _).drew
            clear KK HPKC hwr q4 k3 k4 f4 HN5 HW5
            generalize (w5.setCell ⟨B9, 4, none⟩ (.int .i64 ((mm : Int) + zc))).drew = w6 at *
            have hchb : (mm : Int) ≤ (mm : Int) + zc ∧ (mm : Int) + zc ≤ (mm : Int) + 999 := by omega
            generalize (mm : Int) + zc = ch at *
            have k0 := cellOf (j := 0) HN6.out rfl
            have k1 := cellOf (j := 1) HN6.out rfl
            have k2 := cellOf (j := 2) HN6.out rfl
            have k3 := cellOf (j := 3) HN6.out rfl
            have k4 := cellOf (j := 4) HN6.out rfl
            have k5 := cellOf (j := 5) HN6.out rfl
            have HST : Hid (Inv (if n < ch then ch else n) (insN ⟨PP, dd, t, mm, ch, zv⟩ ns)) := HIS.out n ns ⟨PP, dd, t, mm, ch, zv⟩ HI.out hfull ⟨HPP.out, HDD.out, HT.out.1, HT.out.2, hmz.1, hmz.2, hchb.1, hchb.2, HZV.out.1, HZV.out.2⟩
            have HPUT := hide (put_any w6 (.slice (some ⟨g, o1, none⟩) ns.length qc) ns (ns_of_own (HOK.out w6 HW6.out) hl1) (by omega) ⟨PP, dd, t, mm, ch, zv⟩)
            have HB6 : Hid (Below w.heap.size w w6) := HBK.out w6 HW6.out
            clear HN6 HW6 HOK HAK HBK HPS hmz hchb
            by_cases hgr : n < ch
            · go_wp2_with (go_at_call 25; refine HPUT.out.mono ?_; rintro e w7 ⟨⟨v7, rfl, ho7⟩, hb7⟩; have HO7 : Hid (w7.ownsRow w.heap.size 69 6 v7 (insN ⟨PP, dd, t, mm, ch, zv⟩ ns).length ((insN ⟨PP, dd, t, mm, ch, zv⟩ ns).flatMap ncell)) := ho7.mono HB6.out.size; have HB7 : Hid (Below w.heap.size w w7) := HB6.out.trans (hb7.mono HB6.out.size); clear ho7 hb7)
              exact ⟨⟨k + 1, ch, insN ⟨PP, dd, t, mm, ch, zv⟩ ns, by omega, by go_num, rfl, by have := HST.out; rw [if_pos hgr] at this; exact this, HO7, HB7⟩, by first | (simp [intOf]; done) | (simp [intOf]; omega)⟩
            · go_wp2_with (go_at_call 25; refine HPUT.out.mono ?_; rintro e w7 ⟨⟨v7, rfl, ho7⟩, hb7⟩; have HO7 : Hid (w7.ownsRow w.heap.size 69 6 v7 (insN ⟨PP, dd, t, mm, ch, zv⟩ ns).length ((insN ⟨PP, dd, t, mm, ch, zv⟩ ns).flatMap ncell)) := ho7.mono HB6.out.size; have HB7 : Hid (Below w.heap.size w w7) := HB6.out.trans (hb7.mono HB6.out.size); clear ho7 hb7)
              exact ⟨⟨k + 1, n, insN ⟨PP, dd, t, mm, ch, zv⟩ ns, by omega, by go_num, rfl, by have := HST.out; rw [if_neg (by omega)] at this; exact this, HO7, HB7⟩, by first | (simp [intOf]; done) | (simp [intOf]; omega)⟩)
        · have HPP := hide (HP2.out CP rfl)
          go_wp2_with fail
          generalize CP = PP at *
          clear HP1 HP2 hf1 z0 h2c hzs
          have hn1 := World.new_ne w1 _ a1
          have hn5 := World.new_ne w1 _ a5
          go_region_held3 (fun W => W.cell? ⟨A9, 1, none⟩ = some (.string rd) ∧ W.cell? ⟨A9, 5, none⟩ = some (.int .i64 rv)) (go_keep) (first
            | (go_at_call 23; refine (HCUT.out _).mono ?_; rintro e w2 ⟨dd, hdd, rfl, hw2⟩; have HDD := hide hdd; have hw3 := hw2.symm; clear hw2 hdd; subst hw3)
            | (go_at_call 11; refine (HPKV.out _).mono ?_; rintro e w2 ⟨zv, hzv, rfl, hw2⟩; have HZV := hide hzv; have hw3 := hw2.symm; clear hw2 hzv; subst hw3))
          all_goals (
            obtain ⟨O2, hO2⟩ : ∃ o : Obj, o = .cells #[.string PP, .string dd, .string ⟨#[]⟩, .int .i64 0, .int .i64 0, .int .i64 zv] 69 := ⟨_, rfl⟩
            have hN2 : (w1.alloc (.cells #[.string PP, .string dd, .string ⟨#[]⟩, .int .i64 0, .int .i64 0, .int .i64 zv] 69)).drew.heap[w1.heap.size]? = some (.cells #[.string PP, .string dd, .string ⟨#[]⟩, .int .i64 0, .int .i64 0, .int .i64 zv] 69) := heap_alloc_new w1 _
            have HW2 : Hid (Below w1.heap.size w1 (w1.alloc (.cells #[.string PP, .string dd, .string ⟨#[]⟩, .int .i64 0, .int .i64 0, .int .i64 zv] 69)).drew) := (below1 w1 _).drew
            have HOK : Hid (∀ W, Below w1.heap.size w1 W → W.ownsRow w.heap.size 69 6 (.slice (some ⟨g, o1, none⟩) ns.length qc) ns.length (ns.flatMap ncell)) := fun W h => ownsRow_below HO1.out h
            have HAK : Hid (∀ W, Below w1.heap.size w1 W → W.heap[A9]? = some (.cells #[.string rp, .string rd, .string rt, .int .i64 rm, .int .i64 rch, .int .i64 rv] 69)) := fun W h => (h.block _ (ltOf HA1.out)).trans HA1.out
            have HBK : Hid (∀ W, Below w1.heap.size w1 W → Below w.heap.size w W) := fun W h => HB1.out.trans (h.mono HB1.out.size)
            have hAB : ¬ A9 = w1.heap.size := by have := ltOf HA1.out; omega
            have hBA : ¬ w1.heap.size = A9 := fun e => hAB e.symm
            clear HA1 HB1 HO1 a1 a2 a3 a4 a5 hn1 hn5 hO2
            generalize (w1.alloc (.cells #[.string PP, .string dd, .string ⟨#[]⟩, .int .i64 0, .int .i64 0, .int .i64 zv] 69)).drew = w2 at *
            generalize w1.heap.size = B9 at *
            have q2 := cellOf (j := 2) (HAK.out w2 HW2.out) rfl
            have HN2 := hide hN2
            clear hN2
            go_wp2_with fail
            refine (cut10_any w2 rt (by omega)).mono ?_
            rintro e w3 ⟨⟨tt, htt, rfl⟩, hw3⟩
            have hw4 := hw3.symm
            clear hw3
            subst hw4
            go_wp2_with fail
            refine (plain10_any w2 tt htt).mono ?_
            rintro e w3 ⟨⟨t, ht, htv, rfl⟩, hb3⟩
            have hN3 := (hb3.block _ (ltOf HN2.out)).trans HN2.out
            have HW3 : Hid (Below B9 w1 w3) := HW2.out.trans (hb3.mono (Nat.le_of_lt (ltOf HN2.out)))
            have HT := hide (And.intro ht htv)
            have f2 := frozenOf (j := 2) hN3
            have k2 := cellOf (j := 2) hN3 rfl
            have q3 := cellOf (j := 3) (HAK.out w3 HW3.out) rfl
            have HN4 : Hid ((w3.setCell ⟨B9, 2, none⟩ (.string t)).heap[B9]? = some (.cells #[.string PP, .string dd, .string t, .int .i64 0, .int .i64 0, .int .i64 zv] 69)) := set_block hN3 _
            have HW4 : Hid (Below B9 w1 (w3.setCell ⟨B9, 2, none⟩ (.string t))) := HW3.out.setCell (p := ⟨B9, 2, none⟩) (Nat.le_refl _) _
            clear hN3 hb3 ht htv q2 HN2 HW2
            go_wp2_with fail
            generalize w3.setCell ⟨B9, 2, none⟩ (.string t) = w4 at *
            clear f2 k2 q3 HW3
            refine (pick_any w4 rm 1000 hm0 hm1 (by omega) (by omega)).mono ?_
            rintro e w5 ⟨⟨mm, hmm, rfl⟩, hw5⟩
            have hw6 := hw5.symm
            clear hw5
            subst hw6
            have f3 := frozenOf (j := 3) HN4.out
            have k3 := cellOf (j := 3) HN4.out rfl
            have HN5 : Hid ((w4.setCell ⟨B9, 3, none⟩ (.int .i64 mm)).heap[B9]? = some (.cells #[.string PP, .string dd, .string t, .int .i64 mm, .int .i64 0, .int .i64 zv] 69)) := set_block HN4.out _
            have HW5 : Hid (Below B9 w1 (w4.setCell ⟨B9, 3, none⟩ (.int .i64 mm))) := HW4.out.setCell (p := ⟨B9, 3, none⟩) (Nat.le_refl _) _
            clear HN4 HW4
            go_wp2_with fail
            generalize w4.setCell ⟨B9, 3, none⟩ (.int .i64 mm) = w5 at *
            clear f3 k3
            have q4 := cellOf (j := 4) (HAK.out w5 HW5.out) rfl
            have k3 := cellOf (j := 3) HN5.out rfl
            have k4 := cellOf (j := 4) HN5.out rfl
            have f4 := frozenOf (j := 4) HN5.out
            have hmz : (0 : Int) ≤ (mm : Int) ∧ (mm : Int) ≤ 999 := by omega
            have HPKC : Hid (∀ W, Calls Tryd.prog 11 #[.int .i64 rch, .int .i64 1000] W fun e w' => ∃ zc : Int, (0 ≤ zc ∧ zc ≤ 999) ∧ e = .returned (.int .i64 zc) ∧ w' = W) := fun W => (pick_any W rch 1000 hch0 hch1 (by omega) (by omega)).mono (by
              rintro e w' ⟨⟨z, hz, rfl⟩, rfl⟩
              exact ⟨z, ⟨by omega, by omega⟩, rfl, rfl⟩)
            have KK : Hid (∀ v, (w5.setCell ⟨B9, 4, none⟩ v).drew.cell? ⟨B9, 3, none⟩ = some (.int .i64 mm) ∧ (w5.setCell ⟨B9, 4, none⟩ v).drew.cell? ⟨A9, 4, none⟩ = some (.int .i64 rch)) := fun v =>
              ⟨cellOf (W := (w5.setCell ⟨B9, 4, none⟩ v)) (j := 3) (set_block HN5.out v) rfl, cellOf (W := (w5.setCell ⟨B9, 4, none⟩ v)) (j := 4) (HAK.out _ (HW5.out.setCell (p := ⟨B9, 4, none⟩) (Nat.le_refl _) v)) rfl⟩
            go_region_held3 (fun W => W.cell? ⟨B9, 3, none⟩ = some (.int .i64 mm) ∧ W.cell? ⟨A9, 4, none⟩ = some (.int .i64 rch)) (first | (go_keep; done) | exact KK.out _ | (exact ⟨(KK.out _).1, (KK.out _).2⟩)) ((go_at_call 11; refine (HPKC.out _).mono ?_; rintro e w6 ⟨zc, ⟨hc0, hc1⟩, rfl, hw6⟩; have hw7 := hw6.symm; clear hw6; subst hw7))
            have hwr : IntKind.i64.wrap ((mm : Int) + zc) = (mm : Int) + zc := by rw [IntKind.wrap_i64]; omega
            rw [hwr]
            have HN6 : Hid ((w5.setCell ⟨B9, 4, none⟩ (.int .i64 ((mm : Int) + zc))).drew.heap[B9]? = some (.cells #[.string PP, .string dd, .string t, .int .i64 mm, .int .i64 ((mm : Int) + zc), .int .i64 zv] 69)) := set_block HN5.out _
            have HW6 : Hid (Below B9 w1 (w5.setCell ⟨B9, 4, none⟩ (.int .i64 ((mm : Int) + zc))).drew) := (HW5.out.setCell (p := ⟨B9, 4, none⟩) (Nat.le_refl _) _).drew
            clear KK HPKC hwr q4 k3 k4 f4 HN5 HW5
            generalize (w5.setCell ⟨B9, 4, none⟩ (.int .i64 ((mm : Int) + zc))).drew = w6 at *
            have hchb : (mm : Int) ≤ (mm : Int) + zc ∧ (mm : Int) + zc ≤ (mm : Int) + 999 := by omega
            generalize (mm : Int) + zc = ch at *
            have k0 := cellOf (j := 0) HN6.out rfl
            have k1 := cellOf (j := 1) HN6.out rfl
            have k2 := cellOf (j := 2) HN6.out rfl
            have k3 := cellOf (j := 3) HN6.out rfl
            have k4 := cellOf (j := 4) HN6.out rfl
            have k5 := cellOf (j := 5) HN6.out rfl
            have HST : Hid (Inv (if n < ch then ch else n) (insN ⟨PP, dd, t, mm, ch, zv⟩ ns)) := HIS.out n ns ⟨PP, dd, t, mm, ch, zv⟩ HI.out hfull ⟨HPP.out, HDD.out, HT.out.1, HT.out.2, hmz.1, hmz.2, hchb.1, hchb.2, HZV.out.1, HZV.out.2⟩
            have HPUT := hide (put_any w6 (.slice (some ⟨g, o1, none⟩) ns.length qc) ns (ns_of_own (HOK.out w6 HW6.out) hl1) (by omega) ⟨PP, dd, t, mm, ch, zv⟩)
            have HB6 : Hid (Below w.heap.size w w6) := HBK.out w6 HW6.out
            clear HN6 HW6 HOK HAK HBK HPS hmz hchb
            by_cases hgr : n < ch
            · go_wp2_with (go_at_call 25; refine HPUT.out.mono ?_; rintro e w7 ⟨⟨v7, rfl, ho7⟩, hb7⟩; have HO7 : Hid (w7.ownsRow w.heap.size 69 6 v7 (insN ⟨PP, dd, t, mm, ch, zv⟩ ns).length ((insN ⟨PP, dd, t, mm, ch, zv⟩ ns).flatMap ncell)) := ho7.mono HB6.out.size; have HB7 : Hid (Below w.heap.size w w7) := HB6.out.trans (hb7.mono HB6.out.size); clear ho7 hb7)
              exact ⟨⟨k + 1, ch, insN ⟨PP, dd, t, mm, ch, zv⟩ ns, by omega, by go_num, rfl, by have := HST.out; rw [if_pos hgr] at this; exact this, HO7, HB7⟩, by first | (simp [intOf]; done) | (simp [intOf]; omega)⟩
            · go_wp2_with (go_at_call 25; refine HPUT.out.mono ?_; rintro e w7 ⟨⟨v7, rfl, ho7⟩, hb7⟩; have HO7 : Hid (w7.ownsRow w.heap.size 69 6 v7 (insN ⟨PP, dd, t, mm, ch, zv⟩ ns).length ((insN ⟨PP, dd, t, mm, ch, zv⟩ ns).flatMap ncell)) := ho7.mono HB6.out.size; have HB7 : Hid (Below w.heap.size w w7) := HB6.out.trans (hb7.mono HB6.out.size); clear ho7 hb7)
              exact ⟨⟨k + 1, n, insN ⟨PP, dd, t, mm, ch, zv⟩ ns, by omega, by go_num, rfl, by have := HST.out; rw [if_neg (by omega)] at this; exact this, HO7, HB7⟩, by first | (simp [intOf]; done) | (simp [intOf]; omega)⟩)
      · have hkz : (k : Int) < (raw.length : Int) := by omega
        have hfz : ¬ (ns.length : Int) < 32 := by omega
        go_wp2
        exact bodyPost_ret (v := .tuple #[.int .i64 n, .slice qa ns.length qc]) (by simp [results, Tryd.results12, go_sem]) rfl ⟨⟨n, _, ns, rfl, HI.out, HO.out⟩, HB.out⟩
    · have hkz : ¬ (k : Int) < (raw.length : Int) := by omega
      go_wp2
      exact bodyPost_ret (v := .tuple #[.int .i64 n, .slice qa ns.length qc]) (by simp [results, Tryd.results12, go_sem]) rfl ⟨⟨n, _, ns, rfl, HI.out, HO.out⟩, HB.out⟩
end Go.Proofs.YtlghcldiboecoaaDoor
