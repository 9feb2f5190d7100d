/- What the vector's way of made gives. -/
import Derived.Test.YtbnoghkijgmcgaaDoorGrowK
set_option linter.unusedVariables false
namespace Go.Proofs.YtbnoghkijgmcgaaDoor
open Go.RowKit

theorem ownsRow_row {w w1 : World} {r base : Nat} {e : TypeId} {size : Nat} {v : Value} {n : Nat} {xs : List Value} (h : w.ownsRow base e size v n xs) (hr : v.ownBlock ≠ some r) (hk : Keeps r w.heap.size w w1) : w1.ownsRow base e size v n xs :=
  h.kept (row := some r) ⟨hk.os, hk.tape, hk.output, hk.size, fun k hk1 hk2 => hk.block k hk1 (fun e => hk2 (by rw [e]))⟩ (.inr hr)

/-- What the way of a vector needs and gives. -/
theorem md_vec {q : Nat} {w X : World} {M : Nat} {N S : Value} {n s n4 s3 : Nat} {x y x3 y3 y4 : Int} {σ : List UInt8} {T : Orch.Ty} {vs : List Orch.V} {qa : Option Addr} {qc L k : Nat} {pre : List UInt8} {A : ByteArray} (hkk : vs.length = k)
    (hA : A = ⟨(91 :: (σ ++ [93])).toArray⟩) (hx12 : ¬ x < 12) (hy100 : ¬ y < 100)
    (hrd : Orch.Reads (q + 1) σ T) (hV : Orch.Vec validB (q + 1) T vs pre) (hpre : pre.length = k * L) (hk : k ≤ 3) (hsm : ∀ e, e ∈ vs → Small (q + 1) e)
    (hsum : 4 + ((k * L : Nat) : Int) ≤ max y 0 - max y4 0 + σ.length + 2) (hx1 : (σ.length : Int) = x - 2 - x3) (hx2 : min (x - 2 - 1) (6 - 3 * (q : Int)) ≤ x3)
    (hy1 : y3 ≤ y - 4) (hy2 : y - 4 - 1000 * 5 ^ q ≤ y3) (hy3 : y4 ≤ y3) (hy4 : y3 - 600 ≤ y4) (hn : n4 ≤ n + 2 + 5 ^ (q + 2)) (hs : s3 ≤ s + 5 ^ (q + 2))
    (hXv : VsAt X (fun b => w.heap.size ≤ b ∧ b < X.heap.size) vs (.slice qa k qc)) (hXm : MkAt X M N S n4 s3 x3 y4) :
    MdRes (q + 1) w X M N S n s x y (.returned (.tuple #[.string A, vv 0 ⟨#[]⟩ (.slice qa k qc)])) := by
  subst hkk
  have K25 : 25 ≤ 5 ^ (q + 2) := by rw [Nat.pow_add]; have : 1 ≤ 5 ^ q := Nat.one_le_pow _ _ (by omega); omega
  have K5 : 5 ^ (q + 1 + 2) = 5 * 5 ^ (q + 2) := by rw [show q + 1 + 2 = (q + 2) + 1 by omega, Nat.pow_succ]; omega
  have hPz : (0 : Int) < 5 ^ q := Int.pow_pos (by omega)
  have e5 : (5 : Int) ^ (q + 1) = 5 * 5 ^ q := by rw [Int.pow_succ, Int.mul_comm]
  have hlen : (91 :: (σ ++ [93])).length = σ.length + 2 := by simp
  have hb4 : (Orch.be (vs.length : Int) 4).length = 4 := Orch.be_length _ 4
  refine ⟨91 :: (σ ++ [93]), .mk Orch.l91 [T], .mk 0 ByteArray.empty vs, .slice qa vs.length qc, Orch.be vs.length 4 ++ pre, n4, s3, x3, y4, by rw [hA]; rfl, hXv, ⟨?_, hsm⟩, Orch.reads_vec hrd, Orch.lays_vec hV (by omega), fun h => by simp at h, by rw [List.length_append, hb4]; omega, by rw [hlen, List.length_append, hb4, hpre]; omega, by rw [hlen]; omega, by omega, by omega, by rw [e5]; omega, by rw [K5]; omega, by rw [K5]; omega, hXm⟩
  show vs.length ≤ 1000
  omega

/-- The bytes of a vector are paid for: of a longer type by 200 a round. -/
theorem vec_sum {k L : Nat} {y y3 : Int} {c : Nat} (hk : k ≤ 3) (hy100 : ¬ y < 100) (hy' : y ≤ 700) (hc : c ≤ 60) (hL : (L : Int) ≤ max (y - 4) 0 - max y3 0 + c) (hy1 : y3 ≤ y - 4) (hbd : 2 ≤ k → 250 ≤ y3 - 200 * ((k : Int) - 1)) :
    4 + ((k * L : Nat) : Int) ≤ max y 0 - max (y3 - 200 * (k : Int)) 0 + c + 2 := by
  have : k = 0 ∨ k = 1 ∨ k = 2 ∨ k = 3 := by omega
  rcases this with rfl | rfl | rfl | rfl <;> omega

/-- The same of a type without brackets: each value more has its own price. -/
theorem vec_sum1 {k L : Nat} {y y3 D : Int} {c : Nat} (hk : k ≤ 3) (hy100 : ¬ y < 100) (hy' : y ≤ 700) (hc : c = 1) (hD : (L : Int) ≤ D) (hL : (L : Int) ≤ max (y - 4) 0 - max y3 0 + c) (hy1 : y3 ≤ y - 4) (hbd : 2 ≤ k → 250 ≤ y3 - D * ((k : Int) - 1)) :
    4 + ((k * L : Nat) : Int) ≤ max y 0 - max (y3 - D * (k : Int)) 0 + c + 2 := by
  have : k = 0 ∨ k = 1 ∨ k = 2 ∨ k = 3 := by omega
  rcases this with rfl | rfl | rfl | rfl <;> omega

theorem vec_end1 {k L : Nat} {y y3 y4 D : Int} {c : Nat} (hk : k ≤ 3) (hy100 : ¬ y < 100) (hy' : y ≤ 700) (hc : c = 1) (hD0 : 0 ≤ D) (hD : (L : Int) ≤ D) (hL : (L : Int) ≤ max (y - 4) 0 - max y3 0 + c) (hy1 : y3 ≤ y - 4) (hy4 : y4 = y3 - D * (k : Int)) (hbd : 0 < k → 250 ≤ y3 - D * (k : Int)) :
    4 + ((k * L : Nat) : Int) ≤ max y 0 - max y4 0 + c + 2 := by
  rw [hy4]
  refine vec_sum1 hk hy100 hy' hc hD hL hy1 (fun h2 => ?_)
  have := hbd (by omega)
  have : D * ((k : Int) - 1) = D * k - D := by rw [Int.mul_sub, Int.mul_one]
  omega

/-- The price of a value more. -/
def again1 (c : UInt8) : Int := if c = 63 then 1 else 50

theorem again_price {c : UInt8} {v : Orch.V} {L : Nat} (h : LeafIs c v L) : (L : Int) ≤ again1 c ∧ again1 c ≤ 50 := by
  rcases h with ⟨rfl, _, h, _, _, rfl⟩ | ⟨rfl, _, h, _, _, rfl⟩ | ⟨rfl, _, h, _, _, rfl⟩ | ⟨rfl, _, h, h0, rfl⟩ | ⟨rfl, _, h, h0, _, rfl⟩ <;> simp [again1] <;> omega

theorem again_leaf (w : World) (M : Nat) (N S : Value) (n s x y : Int) (hM : MkAt w M N S n s x y) (c : UInt8) (v : Orch.V) (L : Nat) (h : LeafIs c v L) (va : Option Addr) (vc : Nat) (hy : -1000000000000 ≤ y) (hy' : y ≤ 700) :
    Calls Tryd.prog 18 #[.pointer (some ⟨M, 0, none⟩), .string ⟨#[c]⟩, vv v.n v.s (.slice va 0 vc)] w fun e w' => ((∃ v' va' vc', e = .returned (vv (Orch.V.n v') (Orch.V.s v') (.slice va' 0 vc')) ∧ LeafIs c v' L) ∧ MkAt w' M N S n s x (y - again1 c)) ∧ Keeps M w.heap.size w w' := by
  by_cases hc : c = 63
  · subst hc
    have h' := h
    obtain ⟨vn, vs, vl⟩ := v
    simp only [LeafIs, Orch.V.n, Orch.V.s, Orch.V.l] at h
    rcases h with ⟨_, rfl, rfl, h0, h1, rfl⟩ | ⟨h, _⟩ | ⟨h, _⟩ | ⟨h, _⟩ | ⟨h, _⟩
    · refine (again_bool w M N S n s x y hM vn _ va 0 vc h0 h1 hy hy').mono ?_
      rintro e w' ⟨⟨rfl, hm⟩, hk⟩
      refine ⟨⟨⟨.mk (1 - vn) ByteArray.empty [], none, 0, rfl, .inl ⟨rfl, rfl, rfl, ?_, ?_, rfl⟩⟩, hm⟩, hk⟩
      · show 0 ≤ 1 - vn
        omega
      · show 1 - vn ≤ 1
        omega
    all_goals exact absurd h (by decide)
  · have hc4 : c = 52 ∨ c = 56 ∨ c = 98 ∨ c = 116 := by
      rcases h with ⟨h, _⟩ | ⟨h, _⟩ | ⟨h, _⟩ | ⟨h, _⟩ | ⟨h, _⟩
      · exact absurd h hc
      · exact .inl h
      · exact .inr (.inl h)
      · exact .inr (.inr (.inl h))
      · exact .inr (.inr (.inr h))
    have e1 : again1 c = 50 := if_neg hc
    rw [e1]
    refine (again_same w M N S n s x y hM c hc4 v.n v.s va 0 vc hy hy').mono ?_
    rintro e w' ⟨⟨rfl, hm⟩, hk⟩
    exact ⟨⟨⟨v, va, vc, rfl, h⟩, hm⟩, hk⟩
end Go.Proofs.YtbnoghkijgmcgaaDoor
