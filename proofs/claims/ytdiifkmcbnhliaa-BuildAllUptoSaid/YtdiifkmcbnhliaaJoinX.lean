/-
  The contract of the reference's Rune.
-/
import Derived.Test.YtdiifkmcbnhliaaJoinR
import Derived.Test.YtdiifkmcbnhliaaJoinG
import Derived.Test.YtdiifkmcbnhliaaJoinP
import Derived.Test.YtdiifkmcbnhliaaJoinN
import Derived.Outline
namespace Go.Proofs.Ytdiifkmcbnhliaa.mk
open Go.RowKit

def u8c (l : List Nat) : List Value := l.map fun b : Nat => Value.int .u8 ((b : Nat) : Int)
def tlN (n : Nat) : Nat → List Nat
  | 0 => []
  | k + 1 => (128 + n / 64 ^ k % 64) :: tlN n k
def fsN : Nat → Int
  | 0 => 32
  | 1 => 32
  | 2 => 16
  | _ => 8

theorem u8c_one (l : List Nat) : ∀ u ∈ u8c l, u.oneCell' = true := by
  intro u hu
  unfold u8c at hu
  obtain ⟨b, _, rfl⟩ := List.mem_map.1 hu
  rfl
theorem conv_lies {w : World} {B k c : Nat} {a : Addr} {l : List Nat} (h : Lies w B (some a) (u8c l)) (hl : ∀ b ∈ l, b < 256) (hk : l.length = k) : (convert 69 9 (.slice (some a) k c)).run Try.prog w = .ok (.string ⟨(l.map UInt8.ofNat).toArray⟩) w := by
  have hr := run_convert_bytes_back (P := Try.prog) w 69 9 5 a c (l.map UInt8.ofNat) Try.underlying69 Try.underlying5 Try.underlying9 (fun j hj => by
    rw [List.length_map] at hj
    have hu : (u8c l)[j]? = some (.int .u8 ((l[j] : Nat) : Int)) := by unfold u8c; rw [List.getElem?_map, List.getElem?_eq_getElem hj]; rfl
    obtain ⟨ad, e, _, hc⟩ := h _ _ hu
    injection e with e
    subst e
    rw [hc, List.getElem_map, u8_lt _ (hl _ (List.getElem_mem hj))])
  rw [List.length_map, hk] at hr
  exact hr

def thN : Nat → Nat
  | 0 => 0
  | 1 => 128
  | 2 => 2048
  | _ => 65536
def RuneRel (n B : Nat) (w0 : World) (v0 v3 v4 : Value) (wr : World) : Prop :=
  ∃ k : Nat, k ≤ 3 ∧ thN k ≤ n ∧ v0 = .int .i64 ((n / 64 ^ k : Nat) : Int) ∧ v4 = .int .i64 (fsN k) ∧ wr.ownsRow B 5 1 v3 k (u8c (tlN n k)) ∧ Below B w0 wr

theorem tl_step {n k q : Nat} (h : n / 64 ^ k = q) : [Value.int .u8 (128 + (q : Int) % 64)] ++ u8c (tlN n k) = u8c (tlN n (k + 1)) := by
  subst h
  unfold u8c
  rw [tlN, List.map_cons]
  simp
theorem tl_end {n k q : Nat} (x : Nat) : [Value.int .u8 ((x : Int) + (q : Int))] ++ u8c (tlN n k) = u8c ((x + q) :: tlN n k) := by
  unfold u8c
  rw [List.map_cons]
  simp
theorem tlN_length (n k : Nat) : (tlN n k).length = k := by
  induction k with
  | zero => rfl
  | succ k ih => rw [tlN, List.length_cons, ih]
theorem tlN_lt (n k : Nat) : ∀ b ∈ tlN n k, b < 256 := by
  induction k with
  | zero => intro b hb; simp [tlN] at hb
  | succ k ih =>
    intro b hb
    rw [tlN] at hb
    rcases List.mem_cons.1 hb with rfl | hb
    · omega
    · exact ih b hb
theorem tlN_u8 (n k : Nat) : (u8c (tlN n k)).length = k * 1 := by unfold u8c; rw [List.length_map, tlN_length, Nat.mul_one]
theorem row_some {w : World} {B e size n c : Nat} {A : Option Addr} {xs : List Value} (h : w.ownsRow B e size (.slice A n c) n xs) (hn : 0 < n) : ∃ ad, A = some ad := by
  obtain ⟨A', c', e, h1, _, h2⟩ := own_form h
  injection e with e1 e2 e3
  subst e1
  subst e3
  cases A with
  | some ad => exact ⟨ad, rfl⟩
  | none => have := h1 rfl; omega
theorem runeB_ext {n : Int} {l : List UInt8} (h : (runeB n).data.toList = l) : runeB n = ⟨l.toArray⟩ := by
  rw [← h]

end Go.Proofs.Ytdiifkmcbnhliaa.mk
