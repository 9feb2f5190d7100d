/- Walks of how a schema is read. -/
import Derived.Test.YtlghcldiboecoaaGreatDoorFind
namespace Go.Proofs.YtlghcldiboecoaaGreatDoor
open Go.RowKit

/-! ### plain -/
theorem find_mem {c : UInt8} {l : Orch.Lt} (h : Orch.find c = some l) : l ∈ Orch.letters := List.mem_of_find?_eq_some h

theorem parts_len (f : List UInt8 → Option (Orch.Ty × List UInt8)) (hf : ∀ s t r, f s = some (t, r) → r.length < s.length) (l : Orch.Lt) :
    ∀ n s acc ps r, Orch.parts f l n s acc = some (ps, r) → r.length < s.length ∧ ps.length + r.length < acc.length + s.length := by
  intro n
  induction n with
  | zero => intro s acc ps r h; simp [Orch.parts] at h
  | succ n ih =>
    intro s acc ps r h
    cases s with
    | nil => simp [Orch.parts] at h
    | cons c q =>
      unfold Orch.parts at h
      split at h
      · split at h
        · cases h
        · simp only [Option.some.injEq, Prod.mk.injEq] at h
          obtain ⟨rfl, rfl⟩ := h
          simp
      · split at h
        · cases h
        · rename_i t rest hft
          have h1 := hf _ _ _ hft
          have h2 := ih _ _ _ _ h
          rw [List.length_append] at h2
          simp only [List.length_cons, List.length_nil] at h1 h2 ⊢
          omega

theorem ptype_len : ∀ k s t r, Orch.ptype k s = some (t, r) → r.length < s.length := by
  intro k
  induction k with
  | zero => intro s t r h; simp [Orch.ptype] at h
  | succ k ih =>
    intro s t r h
    cases s with
    | nil => simp [Orch.ptype] at h
    | cons c q =>
      unfold Orch.ptype at h
      split at h
      · cases h
      · split at h
        · simp only [Option.some.injEq, Prod.mk.injEq] at h
          obtain ⟨rfl, rfl⟩ := h
          simp
        · split at h
          · cases h
          · rename_i ps rest hp
            simp only [Option.some.injEq, Prod.mk.injEq] at h
            obtain ⟨rfl, rfl⟩ := h
            have := (parts_len _ ih _ _ _ _ _ _ hp).1
            simp only [List.length_cons]
            omega

theorem parts_ok (f : List UInt8 → Option (Orch.Ty × List UInt8)) (k : Nat) (hf : ∀ s t r, f s = some (t, r) → s.length ≤ 64 → okT k t ∧ r.length < s.length) (l : Orch.Lt) :
    ∀ n s acc ps r, Orch.parts f l n s acc = some (ps, r) → s.length ≤ 64 → (∀ p, p ∈ acc → okT k p) → (∀ p, p ∈ ps → okT k p) ∧ (l.shape = 2 → ps.length = 1) := by
  intro n
  induction n with
  | zero => intro s acc ps r h; simp [Orch.parts] at h
  | succ n ih =>
    intro s acc ps r h hs ha
    cases s with
    | nil => simp [Orch.parts] at h
    | cons c q =>
      unfold Orch.parts at h
      split at h
      · split at h
        · cases h
        · rename_i hn
          simp only [Option.some.injEq, Prod.mk.injEq] at h
          obtain ⟨rfl, rfl⟩ := h
          exact ⟨ha, fun h2 => by
            have h3 : ¬ (acc.length = 0 ∨ l.shape = 2 ∧ 1 < acc.length) := hn
            omega⟩
      · split at h
        · cases h
        · rename_i t rest hft
          have h1 := hf _ _ _ hft hs
          refine ih _ _ _ _ h (by omega) (fun p hp => ?_)
          rw [List.mem_append] at hp
          rcases hp with hp | hp
          · exact ha p hp
          · obtain rfl : p = t := by simpa using hp
            exact h1.1

theorem ptype_ok : ∀ k s t r, Orch.ptype k s = some (t, r) → s.length ≤ 64 → okT k t ∧ r.length < s.length := by
  intro k
  induction k with
  | zero => intro s t r h; simp [Orch.ptype] at h
  | succ k ih =>
    intro s t r h hs
    refine ⟨?_, ptype_len _ _ _ _ h⟩
    cases s with
    | nil => simp [Orch.ptype] at h
    | cons c q =>
      unfold Orch.ptype at h
      split at h
      · cases h
      · rename_i l hl
        have hm := find_mem hl
        split at h
        · rename_i h0
          simp only [Option.some.injEq, Prod.mk.injEq] at h
          obtain ⟨rfl, rfl⟩ := h
          refine ⟨hm, fun h2 => ?_, by simp [Orch.Ty.ps], fun p hp => by simp [Orch.Ty.ps] at hp⟩
          simp only [Orch.Ty.l] at h2
          simp only [Orch.letters, List.mem_cons, List.mem_nil_iff, or_false] at hm
          rcases hm with rfl | rfl | rfl | rfl | rfl | rfl | rfl <;> simp at h2 h0
        · split at h
          · cases h
          · rename_i ps rest hp
            simp only [Option.some.injEq, Prod.mk.injEq] at h
            obtain ⟨rfl, rfl⟩ := h
            simp only [List.length_cons] at hs
            have h1 := parts_ok _ k ih _ _ _ _ _ _ hp (by omega) (fun p hp => by simp at hp)
            have h2 := (parts_len _ (ptype_len k) _ _ _ _ _ _ hp).2
            simp only [List.length_nil] at h2
            exact ⟨hm, h1.2, by simp only [Orch.Ty.ps]; omega, h1.1⟩

theorem parse_ok {s : List UInt8} {t : Orch.Ty} (h : Orch.parse s = some t) : okT 9 t := by
  unfold Orch.parse at h
  split at h
  · cases h
  · split at h
    · rename_i t' hp
      cases h
      exact (ptype_ok 9 s _ _ hp (by omega)).1
    · cases h

/-! ### contracts -/
def noType (e : Ending) : Prop := ∃ (a b c d f : Int) (x : Bool) (g : Int) (p : Option Addr) (m n : Nat) (r : ByteArray), e = .returned (.tuple #[tyv a b c d f x g (.slice p m n), .string r, .bool false])

def ptRes (w w' : World) (e : Ending) : Option (Orch.Ty × List UInt8) → Prop
  | none => noType e
  | some (t, rest) => ∃ psv r, e = .returned (.tuple #[tval t.l psv, .string r, .bool true]) ∧ r.data.toList = rest ∧ TsAt w' (fun b => w.heap.size ≤ b ∧ b < w'.heap.size) t.ps psv

def ppRes (w w' : World) (e : Ending) : Option (List Orch.Ty × List UInt8) → Prop
  | none => e = .returned (.tuple #[.slice none 0 0, .string ⟨#[]⟩, .bool false])
  | some (ps, rest) => ∃ v r, e = .returned (.tuple #[v, .string r, .bool true]) ∧ r.data.toList = rest ∧ TsAt w' (fun b => w.heap.size ≤ b ∧ b < w'.heap.size) ps v

def PtSaid (k : Nat) : Prop := ∀ (w : World) (s : ByteArray) (d : Int), Table w → s.size ≤ 64 → d + k = 9 → Calls Tryz.prog 176 #[.string s, .int .i64 d] w fun e w' => ptRes w w' e (Orch.ptype k s.data.toList) ∧ Below w.heap.size w w'
def PpSaid (k : Nat) : Prop := ∀ (w : World) (s : ByteArray) (l : Orch.Lt) (d : Int), Table w → s.size ≤ 64 → d + k = 9 → Calls Tryz.prog 242 #[.string s, lval l, .int .i64 d] w fun e w' => ppRes w w' e (Orch.parts (Orch.ptype k) l (s.size + 1) s.data.toList []) ∧ Below w.heap.size w w'

theorem Tryz.info227 : (Tryz.prog.info? 227).map (fun i => (i.zero, i.size, i.bytes)) = some (some (tyv 0 0 0 0 0 false 0 (.slice none 0 0)), 8, 72) := by kernel_rfl
theorem Tryz.info113 : (Tryz.prog.info? 113).map (fun i => (i.zero, i.size, i.bytes)) = some (some (vv 0 ⟨#[]⟩ (.slice none 0 0)), 3, 48) := by kernel_rfl
end Go.Proofs.YtlghcldiboecoaaGreatDoor
