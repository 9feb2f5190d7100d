/- An append onto a row that is owned: the old list stays a row; where the new one lies. -/
import Derived.Test.YtlghcldiboecoaaGreatDoorKWhole
set_option linter.unusedVariables false
namespace Go.Proofs.YtlghcldiboecoaaGreatDoor
open Go.RowKit

/-- The beginning of a row is a row. -/
theorem own_prefix {w : World} {base : Nat} {e : TypeId} {size g n m cap : Nat} {xs news : List Value} (h : w.ownsRow base e size (.slice (some ⟨g, 0, none⟩) (n + m) cap) (n + m) (xs ++ news)) (hx : xs.length = n * size) :
    w.ownsRow base e size (.slice (some ⟨g, 0, none⟩) n cap) n xs := by
  rcases h.2 with ⟨h0, _⟩ | ⟨g', cap', cur, hv, hbg, hg, hnc, hcm, hcs, htake⟩
  · cases h0
  · cases hv
    refine ⟨hx, .inr ⟨g, cap, cur, rfl, hbg, hg, by omega, hcm, hcs, ?_⟩⟩
    have h1 := congrArg (List.take (n * size)) htake
    rw [← hx, List.take_left, hx, List.take_take, Nat.min_eq_left (Nat.mul_le_mul_right _ (by omega))] at h1
    exact h1

section
variable {P : Program} (w : World)

/-- What an append of something leaves. -/
def AppRes (w w' : World) (base : Nat) (e : TypeId) (size : Nat) (v v' : Value) (n m : Nat) (xs news : List Value) : Prop :=
  w'.ownsRow base e size v' (n + m) (xs ++ news) ∧ w'.ownsRow base e size v n xs ∧ ((v'.ownBlock = v.ownBlock ∧ w.grownBy w' v.ownBlock) ∨ (v'.ownBlock = some w.heap.size ∧ Below w.heap.size w w'))

theorem run_append_keep (base : Nat) (t ty e : TypeId) (i : TypeInfo) (z : Value) (size bytes : Nat) (ht : P.underlying t = some (.slice e)) (hi : P.info? e = some i) (hz : i.zero = some z)
    (hsize : i.size = size) (hby : i.bytes = bytes) (hzs : z.cells.size = size) (hsz : 0 < size)
    (v : Value) (n : Nat) (xs : List Value) (hown : w.ownsRow base e size v n xs)
    (a : Addr) (m c : Nat) (news : List Value) (hl : news.length = m * size) (hnews : ∀ j u, news[j]? = some u → w.cell? (a.add j) = some u) (h1 : ∀ u ∈ news, u.oneCell' = true)
    (hm : 0 < m) (h63 : n + m ≤ maxLen) (hbytes : (n + m) * bytes ≤ 140737488355328) (hbase : base ≤ w.heap.size) :
    ∃ v' w', (Builtin.append_ #[t, t] ty #[v, .slice (some a) m c]).run P w = .ok v' w' ∧ AppRes w w' base e size v v' n m xs news := by
  obtain ⟨v', w', hr1, ho, _⟩ := run_append_own_at (P := P) w base t ty e i z size bytes ht hi hz hsize hby hzs hsz v n xs hown a m c news hl hnews h1 h63 hbytes hbase
  subst hsize
  subst hby
  have hsmall : n + m ≤ 9223372036854775807 := by simp only [maxLen] at h63; omega
  have fresh : ∀ ob, Below w.heap.size w (w.drew.alloc ob) := fun ob => (below_drew w).trans (below1 w.drew ob)
  rcases hown.2 with ⟨rfl, rfl⟩ | ⟨g, cap, _, rfl, _⟩
  · have hx : xs = [] := List.eq_nil_of_length_eq_zero (by simpa using hown.1)
    subst hx
    have hr := run_append_nil (P := P) w t ty e i z ht hi hz a m c news hl hnews (by omega) (by omega) (by rw [Nat.zero_add] at hbytes; omega)
    rw [hr] at hr1
    cases hr1
    exact ⟨_, _, hr, ho, World.ownsRow_nil _ _ _ _, .inr ⟨rfl, fresh _⟩⟩
  · by_cases hroom : n + m ≤ cap
    · obtain ⟨w2, hr, h2, h3⟩ := run_append_fits (P := P) w base t ty e i i.size ht hi rfl g n cap xs hown a m c news hl hnews h1 hroom
      exact ⟨_, w2, hr, h2, own_prefix h2 hown.1, .inl ⟨rfl, h3⟩⟩
    · have hr := run_append_grow (P := P) w t ty e i z ht hi hz ⟨g, 0, none⟩ n cap xs hown.1 (hown.cells (g := g) rfl) a m c news hl hnews (by omega) (by omega) (growslice_fits (by omega) hbytes)
      rw [hr] at hr1
      cases hr1
      exact ⟨_, _, hr, ho, hown.drew.alloc _, .inr ⟨rfl, fresh _⟩⟩

theorem wpList_append_keep {ops : Array Oper} {rest : List Oper} {o : Oper} {a : Act} {Q : Exit → Act → World → Prop} (hgd : o.guard = none) (s x : Operand) (t : TypeId)
    (ho : o.op = .call { callee := .builtin .append, args := #[s, x], argTypes := #[t, t] })
    (base : Nat) (e : TypeId) (i : TypeInfo) (z : Value) (size bytes : Nat) (ht : P.underlying t = some (.slice e)) (hi : P.info? e = some i) (hz : i.zero = some z)
    (hsize : i.size = size) (hby : i.bytes = bytes) (hzs : z.cells.size = size) (hsz : 0 < size)
    (v : Value) (n : Nat) (xs : List Value) (hs : a.eval s = v) (hown : w.ownsRow base e size v n xs)
    (ad : Addr) (m c : Nat) (news : List Value) (hx : a.eval x = .slice (some ad) m c) (hl : news.length = m * size) (hnews : ∀ j u, news[j]? = some u → w.cell? (ad.add j) = some u) (h1 : ∀ u ∈ news, u.oneCell' = true)
    (hm : 0 < m) (h63 : n + m ≤ maxLen) (hbytes : (n + m) * bytes ≤ 140737488355328) (hbase : base ≤ w.heap.size)
    (h : ∀ v' w', AppRes w w' base e size v v' n m xs news → wpList P ops Q rest (a.put o.dst v') w') :
    wpList P ops Q (o :: rest) a w := by
  refine wpList_plain hgd fun K hK => ?_
  obtain ⟨v', w', hr, h2⟩ := run_append_keep (P := P) w base t o.type e i z size bytes ht hi hz hsize hby hzs hsz v n xs hown ad m c news hl hnews h1 hm h63 hbytes hbase
  unfold Oper.wp execOp
  simp only [ho, resolve, invoke, builtin, Sem.run_bind, Sem.run_pure, Result.andThen_ok, List.map_toArray, List.map_cons, List.map_nil, hs, hx, hr]
  exact hK _ _ (h v' w' h2)
end

/-- The first k marks of the n-th list. -/
def marks (n k : Nat) : List Value := (List.range k).map fun i => .int .u8 (mark n i).toNat

theorem marks_len (n k : Nat) : (marks n k).length = k := by simp [marks]
theorem marks_get {n k i : Nat} (h : i < k) : (marks n k)[i]? = some (.int .u8 (mark n i).toNat) := by simp [marks, h]
theorem marks_add (n k m : Nat) : marks n (k + m) = marks n k ++ (List.range m).map (fun i => Value.int .u8 (mark n (k + i)).toNat) := by
  simp [marks, List.range_add, Function.comp_def]

/-- An owned row of marks reads as written. -/
theorem mk_of_own {w : World} {base n k : Nat} {v : Value} (h : w.ownsRow base 5 1 v k (marks n k)) (hk : k ≤ 9223372036854775806) : MkAt w w.heap.size n v := by
  rcases h.2 with ⟨rfl, rfl⟩ | ⟨g, cap, cur, rfl, hbg, hg, hnc, _⟩
  · exact ⟨none, 0, 0, rfl, by omega, by omega, fun i hi => by omega⟩
  · refine ⟨_, k, cap, rfl, hk, hnc, fun i hi => ⟨g, rfl, ltOf hg, ?_⟩⟩
    have := h.cells rfl i _ (marks_get hi)
    rw [Addr.add_lit, Nat.zero_add] at this
    exact this

/-- Another list of the same marks, behind an append. -/
theorem mk_after {w w' : World} {base n k m : Nat} {v v' u : Value} (hu : MkAt w w.heap.size n u) (hul : ∀ la ln lc, u = .slice la ln lc → ln ≤ k + m) (h : AppRes w w' base 5 1 v v' k m (marks n k) ((List.range m).map (fun i => Value.int .u8 (mark n (k + i)).toNat))) : MkAt w' w'.heap.size n u := by
  obtain ⟨la, ln, lc, rfl, h1, h2, h3⟩ := hu
  have hle := hul la ln lc rfl
  obtain ⟨ho, _, hcase⟩ := h
  rw [← marks_add] at ho
  refine ⟨la, ln, lc, rfl, h1, h2, fun i hi => ?_⟩
  obtain ⟨g, hg, hgB, hc⟩ := h3 i hi
  rcases hcase with ⟨he, hgr⟩ | ⟨_, hb⟩
  · by_cases hgv : v.ownBlock = some g
    · have hgv' : v'.ownBlock = some g := he.trans hgv
      refine ⟨g, hg, (ho.lt g hgv').2, ?_⟩
      have := ho.cells hgv' i _ (marks_get (show i < k + m by omega))
      rw [Addr.add_lit, Nat.zero_add] at this
      exact this
    · refine ⟨g, hg, Nat.lt_of_lt_of_le hgB hgr.size, ?_⟩
      rw [← hc]
      unfold World.cell?
      rw [hgr.block g hgB (fun e => hgv e.symm)]
  · exact ⟨g, hg, Nat.lt_of_lt_of_le hgB hb.size, (hb.cell (p := ⟨g, i, none⟩) hgB).trans hc⟩

/-- One mark more. -/
theorem set_marks {n i : Nat} {xs : List Value} (hi : i < xs.length) : (marks n i ++ xs.drop i).set i (.int .u8 (mark n i).toNat) = marks n (i + 1) ++ xs.drop (i + 1) := by
  rw [List.set_append_right _ _ (by rw [marks_len]; omega), marks_len, Nat.sub_self, List.drop_eq_getElem_cons hi, List.set_cons_zero, marks_add]
  simp
end Go.Proofs.YtlghcldiboecoaaGreatDoor
