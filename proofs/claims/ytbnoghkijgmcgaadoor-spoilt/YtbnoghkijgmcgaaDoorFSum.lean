/- The sum of bytes. -/
import Derived.Test.YtbnoghkijgmcgaaDoorFPlain
import Derived.Test.YtbnoghkijgmcgaaDoorTake
set_option linter.unusedVariables false
namespace Go.Proofs.YtbnoghkijgmcgaaDoor
open Go.RowKit

theorem sumP_take (l : List UInt8) (k : Nat) (h : k < l.length) : Orch.sumP (l.take (k + 1)) = Orch.sumStep (Orch.sumP (l.take k)) l[k] := by
  rw [List.take_succ_eq_append_getElem h, Orch.sumP_snoc]

set_option maxRecDepth 8000 in
set_option maxHeartbeats 400000 in
theorem sum_any (w : World) (b off n cap : Nat) (l : List UInt8) (hn : l.length = n) (hl : n ≤ 9223372036854775807) (hb : Bytes w b off l) :
    Calls Tryd.prog 44 #[.slice (some ⟨b, off, none⟩) n cap] w fun e w' => e = .returned (.int .i64 (Orch.sum l)) ∧ w' = w := by
  subst hn
  go_enter Tryd.func44, Tryd.ntmps44
  go_wp2
  go_loop [3, 4, 9] (fun a c i => ∃ k : Nat, k ≤ l.length ∧ i = .int .i64 k ∧ a = .int .i64 (Orch.sumP (l.take k)).1 ∧ c = .int .i64 (Orch.sumP (l.take k)).2) (fun _ _ i => l.length - (intOf i).toNat)
  case atStart => exact ⟨0, Nat.zero_le _, rfl, rfl, rfl⟩
  case round =>
    obtain ⟨k, hk, rfl, rfl, rfl⟩ := hrel
    obtain ⟨h1, h2⟩ := Orch.sumP_lt (l.take k)
    by_cases hlt : k < l.length
    · have hc := hb k hlt
      have hkz : (k : Int) < (l.length : Int) := by omega
      have HS : Hid (Orch.sumP (l.take (k + 1)) = (((Orch.sumP (l.take k)).1 + l[k].toNat) % 65521, ((Orch.sumP (l.take k)).2 + ((Orch.sumP (l.take k)).1 + l[k].toNat) % 65521) % 65521)) := sumP_take l k hlt
      have hc8 : l[k].toNat < 256 := UInt8.toNat_lt _
      generalize (Orch.sumP (l.take k)).1 = A at *
      generalize (Orch.sumP (l.take k)).2 = C at *
      generalize l[k].toNat = X at *
      have e1 : ((A : Int) + (X : Int)).tmod 65521 = (((A + X) % 65521 : Nat) : Int) := by rw [Int.tmod_eq_emod_of_nonneg (by omega)]; omega
      have e2 : ((C : Int) + (((A + X) % 65521 : Nat) : Int)).tmod 65521 = (((C + (A + X) % 65521) % 65521 : Nat) : Int) := by rw [Int.tmod_eq_emod_of_nonneg (by omega)]; omega
      have hm : (A + X) % 65521 < 65521 := Nat.mod_lt _ (by omega)
      have hm2 : (C + (A + X) % 65521) % 65521 < 65521 := Nat.mod_lt _ (by omega)
      go_wp2
      go_round
      case rel => exact ⟨k + 1, by omega, by go_num, val_int (by rw [HS.out]; show _ = (((A + X) % 65521 : Nat) : Int); omega), val_int (by rw [HS.out]; show _ = (((C + (A + X) % 65521) % 65521 : Nat) : Int); omega)⟩
      case measure => first | (simp [intOf]; done) | (simp [intOf]; omega)
    · have hkz : ¬ (k : Int) < (l.length : Int) := by omega
      have he : l.take k = l := List.take_of_length_le (by omega)
      rw [he] at h1 h2 ⊢
      have HE : Hid (Orch.sum l = (Orch.sumP l).2 * 65536 + (Orch.sumP l).1) := rfl
      generalize (Orch.sumP l).1 = A at *
      generalize (Orch.sumP l).2 = C at *
      go_wp2
      go_ret
      exact ⟨ret_int (by rw [HE.out]; omega), rfl⟩
end Go.Proofs.YtbnoghkijgmcgaaDoor
