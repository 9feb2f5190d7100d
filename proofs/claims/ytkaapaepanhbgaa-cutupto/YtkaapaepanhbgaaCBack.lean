/- string(b) of bytes: what it yields, what it lists. -/
import Derived.Test.YtkaapaepanhbgaaCTopE
import Derived.Laws.IdiomStrings
set_option linter.unusedVariables false
set_option linter.unusedSimpArgs false
namespace Go.Proofs.Ytkaapaepanhbgaa
open Go Go.Conc Go.Pair Go.RowKit

theorem events_forIn_bytes {P : Program} {w : World} (f : Value → ByteArray → Sem (ForInStep ByteArray)) (hf : ∀ (n : Int) (r : ByteArray), (f (.int .u8 n) r).run P w = .ok (.yield (r.push (UInt8.ofNat n.toNat))) w) (he : ∀ (n : Int) (r : ByteArray) (es : Array Event), (f (.int .u8 n) r).events P w es = es) :
    ∀ (ns : List Int) (s : ByteArray) (es : Array Event), (forIn (ns.map (Value.int .u8)) s f).events P w es = es := by
  intro ns
  induction ns with
  | nil => intro s es; simp
  | cons n ns ih =>
    intro s es
    simp only [List.map_cons, List.forIn_cons, Sem.events_bind, hf, he, Result.evThen]
    exact ih _ _

section
variable {S : Loc → Prop} {w : World}
theorem back_run {r c : Nat} {b : List UInt8} (h : w.heap[r]? = some (.cells (bc b).toArray 5)) : (convert 25 9 (.slice (some ⟨r, 0, none⟩) b.length c)).run Try.prog w = .ok (.string ⟨b.toArray⟩) w :=
  run_convert_bytes_back w 25 9 5 ⟨r, 0, none⟩ c b un25 un5 un9 fun j hj => by
    rw [Addr.add_lit]
    simp [World.cell?, h, bc_get b j hj]
theorem back_ev {r c : Nat} {b : List UInt8} (h : w.heap[r]? = some (.cells (bc b).toArray 5)) (hS : ShunW S w) : ∀ ev ∈ (convert 25 9 (.slice (some ⟨r, 0, none⟩) b.length c)).events Try.prog w #[], EvL S w.heap.size ev := by
  intro ev hev
  have hcell : ∀ (j : Nat) (u : Value), (bc b)[j]? = some u → w.cell? ((⟨r, 0, none⟩ : Addr).add j) = some u := fun j u hu => by
    rw [Addr.add_lit]
    simp only [World.cell?, h, Nat.zero_add]
    rw [← hu]
    simp
  have hl := run_loadCells_list (P := Try.prog) w ⟨r, 0, none⟩ (bc b) hcell
  rw [bc_len] at hl
  have he : (convert 25 9 (.slice (some ⟨r, 0, none⟩) b.length c)).events Try.prog w #[] = (Conv.bytesToString (.slice (some ⟨r, 0, none⟩) b.length c)).events Try.prog w #[] := by
    simp [convert, go_sem, run_underlying un25, run_underlying un9, run_underlying un5]
  rw [he] at hev
  have hb : bc b = (b.map fun x => (x.toNat : Int)).map (Value.int .u8) := by simp [bc]
  unfold Conv.bytesToString at hev
  simp only [Sem.events_bind, hl, Result.evThen, List.forIn_toArray] at hev
  rw [hb, run_forIn_bytes _ (by intro n r; simp [Sem.run_pure])] at hev
  simp only [Sem.events_pure] at hev
  rw [events_forIn_bytes _ (by intro n r; simp [Sem.run_pure]) (by intro n r es; simp)] at hev
  rcases events_loadCellsFrom_at (P := Try.prog) ⟨r, 0, none⟩ (fun g => g = r) rfl b.length 0 #[] w #[] (fun j hj => by
    rw [Nat.zero_add]
    exact isSome_of_list hcell (by rw [bc_len]; exact hj)) ev hev with h1 | ⟨ad, h1, h2, h3⟩
  · simp at h1
  · rcases Flat.loadCellsFrom _ _ _ _ _ _ ev hev with h4 | h4
    · simp at h4
    · rw [flat_cell h4 h1]
      exact evL_cell (hS.notA (by rw [h3]; exact h) (by simp [kindOf])) (by rw [h3]; exact lt_of_get h)
end
end Go.Proofs.Ytkaapaepanhbgaa
