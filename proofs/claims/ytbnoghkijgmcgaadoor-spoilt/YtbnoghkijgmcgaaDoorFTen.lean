/- cut and plain, at ten bytes. -/
import Derived.Test.YtbnoghkijgmcgaaDoorAscii
set_option linter.unusedVariables false
namespace Go.Proofs.YtbnoghkijgmcgaaDoor
open Go.RowKit

theorem cut10_any (w : World) (s : ByteArray) (hs : s.size ≤ 9223372036854775807) :
    Calls Tryd.prog 23 #[.string s, .int .i64 10] w fun e w' => (∃ t : ByteArray, t.size ≤ 10 ∧ e = .returned (.string t)) ∧ w' = w := by
  by_cases h : 10 < s.size
  · have hz : (10 : Int) < s.size := by omega
    go_enter Tryd.func23, Tryd.ntmps23
    go_wp2
    all_goals go_ret
    exact ⟨⟨s.extract 0 10, by rw [ByteArray.size_extract]; omega, rfl⟩, rfl⟩
  · have hz : ¬ (10 : Int) < s.size := by omega
    go_enter Tryd.func23, Tryd.ntmps23
    go_wp2
    all_goals go_ret
    exact ⟨⟨s, by omega, rfl⟩, rfl⟩

set_option maxRecDepth 8000 in
set_option maxHeartbeats 1000000 in
theorem plain10_any (w : World) (s : ByteArray) (hs : s.size ≤ 10) :
    Calls Tryd.prog 24 #[.string s] w fun e w' => (∃ t : ByteArray, t.size ≤ 10 ∧ validB t = true ∧ e = .returned (.string t)) ∧ Below w.heap.size w w' := by
  have hconv : ∀ W, (convert 9 34 (.string s)).run Tryd.prog W = .ok (.slice (some ⟨W.heap.size, 0, none⟩) s.size (grownCap W s.size 0 5)) (Lib.bytesWorld W 5 s) := fun W => Lib.run_convert_string_bytes W 9 34 5 s Tryd.underlying9 Tryd.underlying34 Tryd.underlying5
  have HR : Hid (Row (Lib.bytesWorld w 5 s) w.heap.size s.data.toList) := row_new w s
  have HB : Hid (Below w.heap.size w (Lib.bytesWorld w 5 s)) := ⟨rfl, rfl, rfl, by rw [Lib.bytesWorld_size]; omega, fun k hk => Lib.bytesWorld_at_old w 5 s k hk⟩
  have hcap : s.size ≤ grownCap w s.size 0 5 := grownCap_ge _ _ _ _
  have HCV : Hid (∀ W l, l.length = s.size → Row W w.heap.size l → (convert 34 9 (.slice (some ⟨w.heap.size, 0, none⟩) s.size (grownCap w s.size 0 5))).run Tryd.prog W = .ok (.string ⟨l.toArray⟩) W) := fun W l hl h => by rw [← hl]; exact conv_row h
  have hlen : s.data.toList.length = s.size := rfl
  go_enter Tryd.func24, Tryd.ntmps24
  go_wp2_with fail
  clear hconv
  generalize grownCap w s.size 0 5 = C at *
  generalize s.size = ln at *
  go_loopw [4] (fun i wr => ∃ (k : Nat) (l : List UInt8), i = .int .i64 k ∧ k ≤ ln ∧ l.length = ln ∧ Hid (Row wr w.heap.size l) ∧ Hid (Below w.heap.size w wr) ∧ Hid (∀ j (h : j < l.length), j < k → l[j].toNat < 128))
    (fun i _ => ln - (intOf i).toNat)
  case atStart => exact ⟨0, s.data.toList, rfl, Nat.zero_le _, hlen, HR, HB, fun j h hj => by omega⟩
  case round =>
    obtain ⟨k, l, rfl, hk, hl, HR', HB', HA⟩ := hrel
    by_cases hlt : k < ln
    · have c0 := HR'.out.cell k (by omega)
      have f0 := HR'.out.free k (by omega)
      have hkz : (k : Int) < ln := by omega
      have hc8 : l[k].toNat < 256 := UInt8.toNat_lt _
      have HN : Hid (Row (wr.setCell ⟨w.heap.size, k, none⟩ (.int .u8 ((l[k].toNat : Int) % 128))) w.heap.size (l.set k (UInt8.ofNat (l[k].toNat % 128)))) := by
        have h1 := HR'.out.set k (by omega) (UInt8.ofNat (l[k].toNat % 128))
        have e : ((UInt8.ofNat (l[k].toNat % 128)).toNat : Int) = (l[k].toNat : Int) % 128 := by
          simp only [UInt8.toNat_ofNat']
          omega
        rw [e] at h1
        exact h1
      have HN2 : Hid (Below w.heap.size w (wr.setCell ⟨w.heap.size, k, none⟩ (.int .u8 ((l[k].toNat : Int) % 128)))) :=
        HB'.out.trans ⟨rfl, rfl, rfl, by simp [World.setCell], fun j hj => heap_setCell_other wr _ j _ (Nat.ne_of_lt hj)⟩
      have HN3 : Hid (∀ j (h : j < (l.set k (UInt8.ofNat (l[k].toNat % 128))).length), j < k + 1 → (l.set k (UInt8.ofNat (l[k].toNat % 128)))[j].toNat < 128) := fun j h hj => by
        rw [List.getElem_set]
        split
        · simp only [UInt8.toNat_ofNat']
          omega
        · rw [List.length_set] at h
          exact HA.out j h (by omega)
      generalize hX : (l[k].toNat : Int) = X at *
      go_wp2
      go_round
      case rel => exact ⟨k + 1, _, by go_num, by omega, by rw [List.length_set]; exact hl, HN, HN2, HN3⟩
      case measure => first | (simp [intOf]; done) | (simp [intOf]; omega)
    · have hkz : ¬ (k : Int) < ln := by omega
      have hcv := HCV.out wr l hl HR'.out
      have HV : Hid (validB ⟨l.toArray⟩ = true) := ascii_valid l fun c hc => by
        obtain ⟨j, hj, rfl⟩ := List.getElem_of_mem hc
        exact HA.out j hj (by omega)
      go_wp2
      go_ret
      exact ⟨⟨⟨l.toArray⟩, by show l.toArray.size ≤ 10; simp; omega, HV.out, rfl⟩, HB'.out⟩
end Go.Proofs.YtbnoghkijgmcgaaDoor
