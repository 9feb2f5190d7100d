/- Goroutine 0's own code: append, and what stands. -/
import Derived.Test.YtkaapaepanhbgaaCFeed
import Derived.Laws.OwnMore
set_option linter.unusedVariables false
set_option linter.unusedSimpArgs false
namespace Go.Pair
open Go Go.Conc
section
variable {P : Program} {w w' : World} {e : TypeId} {xs ys : List Value} {v y : Value}
theorem append_zero (t : TypeId) (i : TypeInfo) (ht : P.underlying t = some (.slice e)) (hi : P.info? e = some i) (h : RowIs w e xs v) (b : Option Addr) (c : Nat) :
    (Builtin.append_ #[t, t] t #[v, .slice b 0 c]).run P w = .ok v w ∧ (Builtin.append_ #[t, t] t #[v, .slice b 0 c]).events P w #[] = #[] := by
  rcases h with ⟨rfl, _⟩ | ⟨q, c', cells, rfl, h2, _⟩
  · cases b <;> constructor <;> simp [Builtin.append_, run_underlying ht, sizeOf, typeInfo, hi, Builtin.lenOf, Builtin.firstCells, loadCells, loadCellsFrom]
  · cases b <;> constructor <;> simp [Builtin.append_, run_underlying ht, sizeOf, typeInfo, hi, Builtin.lenOf, Builtin.firstCells, h2, storeCells, loadCells, loadCellsFrom]

theorem evL_mark {Shun : Loc → Prop} {B : Nat} {mk : Mark} (h : Neutral mk) : EvL Shun B ⟨.mark mk, false, true⟩ := by
  unfold Neutral at h
  subst h
  exact ⟨fun x hx => by simp [MemAct.ofEvent, MemAct.touch?] at hx, by simp, by simp, trivial⟩

/-- Values that lie in a row, to be read. -/
def ReadRow (w : World) (e : TypeId) (ys : List Value) (y : Value) : Prop :=
  (∃ b c, y = .slice b 0 c ∧ ys = []) ∨ ∃ a c o, y = .slice (some a) ys.length c ∧ (∀ (j : Nat) (u : Value), ys[j]? = some u → w.cell? (a.add j) = some u) ∧ w.heap[a.block]? = some o ∧ kindOf o = some e
theorem RowIs.read (h : RowIs w e ys y) : ReadRow w e ys y := by
  rcases h with ⟨rfl, rfl⟩ | ⟨q, c, cells, rfl, h2, h3, h4, h5, h6⟩
  · exact .inl ⟨_, _, rfl, rfl⟩
  · refine .inr ⟨⟨q, 0, none⟩, c, _, rfl, fun j u hu => ?_, h3, rfl⟩
    have hj := (List.getElem?_eq_some_iff.1 hu).1
    rw [Addr.add_lit]
    simp only [World.cell?, Nat.zero_add, h3, h5 j hj]
    rw [← hu, List.getElem?_eq_getElem hj]
    rfl

/-- What an append leaves. -/
structure AppS (w : World) (e : TypeId) (v : Value) (all : List Value) (v' : Value) (w' : World) : Prop where
  row : RowIs w' e all v'
  size : w.heap.size ≤ w'.heap.size
  keep : ∀ i, i < w.heap.size → v.ownBlock ≠ some i → w'.heap[i]? = w.heap[i]?
  own : ∀ g, v'.ownBlock = some g → v.ownBlock = some g ∨ w.heap.size ≤ g
  kind : ∀ (i : Nat), v.ownBlock = some i → ∃ cells' : Array Value, w'.heap[i]? = some (Obj.cells cells' e)

theorem app_s {Shun : Loc → Prop} (t : TypeId) (i : TypeInfo) (z : Value) (bytes : Nat) (ht : P.underlying t = some (.slice e)) (hi : P.info? e = some i) (hz : i.zero = some z) (hzc : z.cells.size = 1) (hz1 : i.size = 1) (hz2 : i.bytes = bytes)
    (hx : RowIs w e xs v) (hy : ReadRow w e ys y) (hns : ∀ (a : Addr) (o : Obj), w.heap[a.block]? = some o → kindOf o = some e → ¬ Shun (.cell a)) (h1 : ∀ u ∈ ys, u.oneCell' = true)
    (hbig : xs.length + ys.length ≤ maxLen) (hby : (xs.length + ys.length) * bytes ≤ 140737488355328) (hb0 : 0 < bytes) :
    ∃ v' w', (Builtin.append_ #[t, t] t #[v, y]).run P w = .ok v' w' ∧ AppS w e v (xs ++ ys) v' w' ∧ ∀ es : Array Event, (∀ ev ∈ es, ev ∈ (Builtin.append_ #[t, t] t #[v, y]).events P w #[]) → DS Shun w w' es := by
  have triv : ∀ b c, y = .slice b 0 c → ys = [] → ∃ v' w', (Builtin.append_ #[t, t] t #[v, y]).run P w = .ok v' w' ∧ AppS w e v (xs ++ ys) v' w' ∧ ∀ es : Array Event, (∀ ev ∈ es, ev ∈ (Builtin.append_ #[t, t] t #[v, y]).events P w #[]) → DS Shun w w' es := by
    rintro b c rfl rfl
    obtain ⟨hr, he⟩ := append_zero t i ht hi hx b c
    refine ⟨v, w, hr, ⟨by simpa using hx, Nat.le_refl _, fun _ _ _ => rfl, fun _ h => .inl h, fun i hi => ?_⟩, fun es hes => ⟨Nat.le_refl _, fun ev hev => ?_, rfl, rfl⟩⟩
    · obtain ⟨c, cells, _, h⟩ := hx.own hi
      exact ⟨cells, h⟩
    · have := hes ev hev
      rw [he] at this
      simp at this
  rcases hy with ⟨b, c, rfl, rfl⟩ | ⟨a, c, o, rfl, hsrc, ho, hko⟩
  · exact triv _ _ rfl rfl
  · by_cases hm : ys = []
    · subst hm
      exact triv _ _ rfl rfl
    · have hm0 : 0 < ys.length := List.length_pos_iff.2 hm
      obtain ⟨v', w', hr, hA, hE⟩ := append_gen (P := P) (w := w) (xs := xs) (v := v) t i z bytes ht hi hz hzc hz1 hz2 hx (a := a) (m := ys.length) (c := c) (news := ys) rfl hm0 hsrc h1 hbig hby hb0
      have hap : AppS w e v (xs ++ ys) v' w' := by
        rcases hA.how with ⟨Z, cc, hh, rfl⟩ | ⟨g, n, cc, cells, e1, rfl, h7, sz, oth, cells', h8⟩
        · have old : ∀ i, i < w.heap.size → w'.heap[i]? = w.heap[i]? := fun i hi => by rw [hh, Array.getElem?_push, if_neg (by omega)]
          refine ⟨hA.row, by rw [hh, Array.size_push]; omega, fun i hi _ => old i hi, fun g hg => by simp [Value.ownBlock] at hg; right; omega, fun i hi => ?_⟩
          obtain ⟨c, cells, _, h⟩ := hx.own hi
          exact ⟨cells, by rw [old i (lt_of_get h)]; exact h⟩
        · subst e1
          refine ⟨hA.row, by omega, fun i _ hv => oth i (fun e => hv (by rw [e]; rfl)), fun g' hg' => .inl hg', fun i hi => ?_⟩
          simp [Value.ownBlock] at hi
          subst hi
          exact ⟨cells', h8⟩
      refine ⟨v', w', hr, hap, fun es hes => ⟨hap.size, fun ev hev => ?_, hA.rest.2⟩⟩
      rcases hE ev (hes ev hev) with ⟨ad, wr, rfl, h7⟩ | ⟨mk, rfl, h7⟩
      · have : ∃ o, w.heap[ad.block]? = some o ∧ kindOf o = some e := by
          rcases h7 with ⟨_, h7⟩ | h7
          · exact ⟨o, by rw [h7]; exact ho, hko⟩
          · obtain ⟨c, cells, _, h⟩ := hx.own h7.symm
            exact ⟨_, h, rfl⟩
        obtain ⟨o', h8, h9⟩ := this
        exact evL_cell (hns ad o' h8 h9) (Nat.lt_of_lt_of_le (lt_of_get h8) hap.size)
      · exact evL_mark h7
end
end Go.Pair
