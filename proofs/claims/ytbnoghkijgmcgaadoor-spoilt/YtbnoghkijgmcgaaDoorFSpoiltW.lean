/- Spoilt answers true. -/
import Derived.Test.YtbnoghkijgmcgaaDoorFSpoilt
set_option linter.unusedVariables false
namespace Go.Proofs.YtbnoghkijgmcgaaDoor
open Go.RowKit

theorem spoilt_walk {Tabs : World → Prop} (U : Utf validB Tabs) (w : World) (hT : Tabs w) (hL : Table w) (hSc : Schemas w) (mx : Int) (hm : w.cell? ⟨4, 0, none⟩ = some (.int .i64 mx)) (h4 : 4 < w.heap.size)
    (rawv : Value) (raw : List Orch.Node) (hraw : Raw w rawv raw) (hlen : raw.length ≤ 9223372036854775807) (hrng : ∀ x, x ∈ raw → x.data.size ≤ 9223372036854775807 ∧ x.note.size ≤ 9223372036854775807 ∧ (-9223372036854775808 ≤ x.made ∧ x.made ≤ 9223372036854775807) ∧ (-9223372036854775808 ≤ x.changed ∧ x.changed ≤ 9223372036854775807) ∧ (-9223372036854775808 ≤ x.version ∧ x.version ≤ 9223372036854775807))
    (ati tov : Int) (ha0 : -9223372036854775808 ≤ ati) (ha1 : ati ≤ 9223372036854775807) (ht0 : -9223372036854775808 ≤ tov) (ht1 : tov ≤ 9223372036854775807) :
    Calls Tryd.prog 6 #[rawv, .int .i64 ati, .int .i64 tov] w fun e w' => e = .returned (.bool true) ∧ Below w.heap.size w w' := by
  have hload : ∀ W bv l, Below w.heap.size w W → BsAt W bv l → Bad l → Calls Tryd.prog 28 #[bv] W fun e w' => e = .returned (.tuple #[.int .i64 0, .int .i64 0, .slice none 0 0, .int .i64 7]) ∧ Below W.heap.size W w' := fun W bv l hW hbs hb =>
    load_bad U W (U.kept (U.size hT) hW hT) (hL.below hW hL.pos) (hSc.below hW (by omega)) mx ((hW.cell (p := ⟨4, 0, none⟩) h4).trans hm) (Nat.lt_of_lt_of_le h4 hW.size) bv l hbs hb
  refine spoilt_core w rawv ati tov ha0 ha1 ht0 ht1 ?_ ?_ ?_ ?_
  · refine (grown_any Grow grow_root (fun n ns h => grow_is h) (fun n ns x h hl hx => grow_step n ns x h hl hx) w rawv raw hraw hlen hrng).mono ?_
    rintro e w' ⟨⟨n, v, ns, rfl, hg, ho⟩, hb⟩
    exact ⟨n, v, ns, rfl, hg, ns_of_own ho (grow_is hg).1, hb⟩
  · intro W n v ns hW hg hns
    have hi := grow_is hg
    exact saved_2 U W (U.kept (U.size hT) hW hT) (hL.below hW hL.pos) (hSc.below hW (by omega)) mx ((hW.cell (p := ⟨4, 0, none⟩) h4).trans hm) (Nat.lt_of_lt_of_le h4 hW.size) n hi.2.2.1 (by omega) v ns hns (grow_tree hg)
      (fun x hx => by obtain ⟨a1, a2, a3, a4, _⟩ := grow_nd hg x hx; exact ⟨by omega, by omega⟩) (grow_nb hg)
  · intro W bv l hW hbs hb
    refine (oLoad_of W bv (fun a b v c w' => (a = 0 ∧ b = 0 ∧ v = .slice none 0 0 ∧ c = 7) ∧ Below W.heap.size W w') ((hload W bv l hW hbs hb).mono ?_)).mono ?_
    · rintro e w' ⟨rfl, hb'⟩
      exact ⟨0, 0, _, 7, rfl, ⟨rfl, rfl, rfl, rfl⟩, hb'⟩
    · rintro e w' ⟨a, b, v, c, rfl, ⟨rfl, rfl, rfl, rfl⟩, hb'⟩
      exact ⟨rfl, hb'⟩
  · intro W bv l hW hbs hb
    exact upgrade_bad W bv (fun w' => Below W.heap.size W w') (hload W bv l hW hbs hb)
end Go.Proofs.YtbnoghkijgmcgaaDoor
