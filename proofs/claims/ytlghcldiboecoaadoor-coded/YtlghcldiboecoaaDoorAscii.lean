/- Bytes below 128 are well-formed characters; the walk of the call that makes them so. -/
import Derived.Test.YtlghcldiboecoaaDoorPick
import Derived.Test.YtlghcldiboecoaaDoorLets
import Derived.Lib.ConvBytes
import Derived.Lib.TrimAscii
set_option linter.unusedVariables false
namespace Go.Proofs.YtlghcldiboecoaaDoor
open Go.RowKit

/-- The bytes l are the first cells of block g, which may be written. -/
def Row (w : World) (g : Nat) (l : List UInt8) : Prop :=
  ∃ cs : Array Value, w.heap[g]? = some (.cells cs 5 (cs.size, cs.size + 1)) ∧ l.length ≤ cs.size ∧ ∀ i (h : i < l.length), cs[i]? = some (.int .u8 l[i].toNat)

theorem Row.free {w : World} {g : Nat} {l : List UInt8} (h : Row w g l) (i : Nat) (hi : i < l.length) : w.frozen? ⟨g, i, none⟩ = false := by
  obtain ⟨cs, h1, h2, _⟩ := h
  simp [World.frozen?, h1]
  omega
theorem Row.cell {w : World} {g : Nat} {l : List UInt8} (h : Row w g l) (i : Nat) (hi : i < l.length) : w.cell? ⟨g, i, none⟩ = some (.int .u8 l[i].toNat) := by
  obtain ⟨cs, h1, h2, h3⟩ := h
  unfold World.cell?
  rw [h1]
  exact h3 i hi
theorem Row.set {w : World} {g : Nat} {l : List UInt8} (h : Row w g l) (i : Nat) (hi : i < l.length) (c : UInt8) : Row (w.setCell ⟨g, i, none⟩ (.int .u8 c.toNat)) g (l.set i c) := by
  obtain ⟨cs, h1, h2, h3⟩ := h
  refine ⟨cs.setIfInBounds i (.int .u8 c.toNat), ?_, by simpa using h2, fun j hj => ?_⟩
  · simp [World.setCell, Array.getElem?_modify, h1]
  · rw [List.length_set] at hj
    rw [Array.getElem?_setIfInBounds]
    by_cases e : i = j
    · subst e
      simp
      omega
    · rw [if_neg e, h3 j hj]
      simp [e]

theorem row_new (W : World) (s : ByteArray) : Row (Lib.bytesWorld W 5 s) W.heap.size s.data.toList := by
  refine ⟨_, Lib.bytesWorld_at_new W 5 s, ?_, fun i hi => ?_⟩
  · simp [Lib.bytesCells]
  · have hi' : i < s.data.size := by simpa using hi
    have hi2 : i < s.size := hi'
    simp [Lib.bytesCells, Array.getElem?_append, hi2]

theorem ascii_go : ∀ n (l : List UInt8), (∀ c ∈ l, c.toNat < 128) → Lib.validGoD n l = true := by
  intro n
  induction n with
  | zero => intro l _; rfl
  | succ n ih =>
    intro l h
    unfold Lib.validGoD
    cases l with
    | nil => simp
    | cons c r =>
      have hc := h c (.head _)
      rw [Lib.decodeL_ascii c r hc, if_neg (by simp), if_neg (by simp; omega)]
      exact ih _ (fun d hd => h d (List.mem_cons_of_mem _ (by simpa using hd)))

theorem ascii_valid (l : List UInt8) (h : ∀ c ∈ l, c.toNat < 128) : validB ⟨l.toArray⟩ = true := ascii_go _ _ h

theorem conv_row {w : World} {g cap : Nat} {b : List UInt8} (h : Row w g b) : (convert 34 9 (.slice (some ⟨g, 0, none⟩) b.length cap)).run Tryd.prog w = .ok (.string ⟨b.toArray⟩) w := by
  have hstr : strOfNums (b.map fun c => (c.toNat : Int)) = (⟨b.toArray⟩ : ByteArray) := by
    unfold strOfNums
    congr 2
    rw [List.map_map]
    conv => rhs; rw [← List.map_id b]
    apply List.map_congr_left
    intro c _
    simp
  have := run_convert_bytes_arg (P := Tryd.prog) w 34 5 Tryd.underlying34 Tryd.underlying5 g 0 b.length cap (b.map fun c => (c.toNat : Int)) (by simp) (fun i hi => by
    rw [Nat.zero_add, h.cell i hi, List.getD_eq_getElem?_getD, List.getElem?_map, List.getElem?_eq_getElem hi]
    rfl) 9 Tryd.underlying9
  rw [hstr] at this
  exact this

set_option maxRecDepth 8000 in
set_option maxHeartbeats 1000000 in
theorem plain_any (w : World) (s : ByteArray) (hs : s.size ≤ 40) :
    Calls Tryd.prog 24 #[.string s] w fun e w' => (∃ t : ByteArray, t.size ≤ 40 ∧ validB t = true ∧ e = .returned (.string t)) ∧ Below w.heap.size w w' := by
  have hconv : ∀ W, (convert 9 34 (.string s)).run Tryd.prog W = .ok (.slice (some ⟨W.heap.size, 0, none⟩) s.size (grownCap W s.size 0 5)) (Lib.bytesWorld W 5 s) := fun W => Lib.run_convert_string_bytes W 9 34 5 s Tryd.underlying9 Tryd.underlying34 Tryd.underlying5
  have HR : Hid (Row (Lib.bytesWorld w 5 s) w.heap.size s.data.toList) := row_new w s
  have HB : Hid (Below w.heap.size w (Lib.bytesWorld w 5 s)) := ⟨rfl, rfl, rfl, by rw [Lib.bytesWorld_size]; omega, fun k hk => Lib.bytesWorld_at_old w 5 s k hk⟩
  have hcap : s.size ≤ grownCap w s.size 0 5 := grownCap_ge _ _ _ _
  have HCV : Hid (∀ W l, l.length = s.size → Row W w.heap.size l → (convert 34 9 (.slice (some ⟨w.heap.size, 0, none⟩) s.size (grownCap w s.size 0 5))).run Tryd.prog W = .ok (.string ⟨l.toArray⟩) W) := fun W l hl h => by rw [← hl]; exact conv_row h
  have hlen : s.data.toList.length = s.size := rfl
  go_enter Tryd.func24, Tryd.ntmps24
  go_wp2_with fail
  clear hconv
  generalize grownCap w s.size 0 5 = C at *
  generalize s.size = ln at *
  go_loopw [4] (fun i wr => ∃ (k : Nat) (l : List UInt8), i = .int .i64 k ∧ k ≤ ln ∧ l.length = ln ∧ Hid (Row wr w.heap.size l) ∧ Hid (Below w.heap.size w wr) ∧ Hid (∀ j (h : j < l.length), j < k → l[j].toNat < 128))
    (fun i _ => ln - (intOf i).toNat)
  case atStart => exact ⟨0, s.data.toList, rfl, Nat.zero_le _, hlen, HR, HB, fun j h hj => by omega⟩
  case round =>
    obtain ⟨k, l, rfl, hk, hl, HR', HB', HA⟩ := hrel
    by_cases hlt : k < ln
    · have c0 := HR'.out.cell k (by omega)
      have f0 := HR'.out.free k (by omega)
      have hkz : (k : Int) < ln := by omega
      have hc8 : l[k].toNat < 256 := UInt8.toNat_lt _
      have HN : Hid (Row (wr.setCell ⟨w.heap.size, k, none⟩ (.int .u8 ((l[k].toNat : Int) % 128))) w.heap.size (l.set k (UInt8.ofNat (l[k].toNat % 128)))) := by
        have h1 := HR'.out.set k (by omega) (UInt8.ofNat (l[k].toNat % 128))
        have e : ((UInt8.ofNat (l[k].toNat % 128)).toNat : Int) = (l[k].toNat : Int) % 128 := by
          simp only [UInt8.toNat_ofNat']
          omega
        rw [e] at h1
        exact h1
      have HN2 : Hid (Below w.heap.size w (wr.setCell ⟨w.heap.size, k, none⟩ (.int .u8 ((l[k].toNat : Int) % 128)))) :=
        HB'.out.trans ⟨rfl, rfl, rfl, by simp [World.setCell], fun j hj => heap_setCell_other wr _ j _ (Nat.ne_of_lt hj)⟩
      have HN3 : Hid (∀ j (h : j < (l.set k (UInt8.ofNat (l[k].toNat % 128))).length), j < k + 1 → (l.set k (UInt8.ofNat (l[k].toNat % 128)))[j].toNat < 128) := fun j h hj => by
        rw [List.getElem_set]
        split
        · simp only [UInt8.toNat_ofNat']
          omega
        · rw [List.length_set] at h
          exact HA.out j h (by omega)
      generalize hX : (l[k].toNat : Int) = X at *
      go_wp2
      go_round
      case rel => exact ⟨k + 1, _, by go_num, by omega, by rw [List.length_set]; exact hl, HN, HN2, HN3⟩
      case measure => first | (simp [intOf]; done) | (simp [intOf]; omega)
    · have hkz : ¬ (k : Int) < ln := by omega
      have hcv := HCV.out wr l hl HR'.out
      have HV : Hid (validB ⟨l.toArray⟩ = true) := ascii_valid l fun c hc => by
        obtain ⟨j, hj, rfl⟩ := List.getElem_of_mem hc
        exact HA.out j hj (by omega)
      go_wp2
      go_ret
      exact ⟨⟨⟨l.toArray⟩, by show l.toArray.size ≤ 40; simp; omega, HV.out, rfl⟩, HB'.out⟩
end Go.Proofs.YtlghcldiboecoaaDoor
