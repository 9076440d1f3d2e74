/- huff's code with one bit more. -/
import Derived.Test.YtlbhgackpjfhaaaHufZ
import Derived.Test.YtlbhgackpjfhaaaBitDH
namespace Go.Proofs.Ytlbhgackpjfhaaa
open Go.RowKit Go.Maps

theorem or_lay16 (x p f s : Nat) (hx : x < 2 ^ f) (hp : p < 2 ^ s) (hfit : f + s ≤ 16) : bits .or .u16 (x : Int) ((p : Int) * 2 ^ f) = ((x + p * 2 ^ f : Nat) : Int) ∧ p * 2 ^ f < 65536 := by
  have h2 : 2 ^ (f + s) ≤ 2 ^ 16 := Nat.pow_le_pow_right (by decide) hfit
  have h3 : (2 : Nat) ^ 16 = 65536 := rfl
  have hpos : 0 < 2 ^ f := Nat.two_pow_pos f
  have hx2 : x < 65536 := by
    have : 2 ^ f ≤ 2 ^ (f + s) := Nat.pow_le_pow_right (by decide) (by omega)
    omega
  have hm : p * 2 ^ f < 65536 := by
    have : (p + 1) * 2 ^ f ≤ 2 ^ s * 2 ^ f := Nat.mul_le_mul_right _ hp
    rw [← Nat.pow_add, Nat.add_mul, Nat.add_comm s f] at this
    omega
  have e : ((p : Int) * 2 ^ f) = ((p * 2 ^ f : Nat) : Int) := by simp
  rw [e, (bits_nat .u16 16 (by decide) (fun m h0 h1 => by rw [IntKind.wrap_u16]; omega) x (p * 2 ^ f) (by omega) (by omega)).2]
  refine ⟨?_, by omega⟩
  rw [Nat.or_comm, Nat.mul_comm p, ← Nat.two_pow_add_eq_or_of_lt hx p]
  congr 1
  omega

theorem results_code {fn : Func} {p : Tmp} {tmps : Array Value} {w : World} {B : Nat} {u v : Value} (h : fn.results = #[.cell p 62]) (hp : tmps.getD p undef = .pointer (some ⟨B, 0, none⟩)) (c0 : w.cell? ⟨B, 0, none⟩ = some u) (c1 : w.cell? ⟨B, 1, none⟩ = some v) :
    (results fn tmps).run Try.prog w = .ok (.agg #[u, v]) w := by
  have hp' : tmps[p]?.getD undef = .pointer (some ⟨B, 0, none⟩) := by simpa using hp
  simp [results, h, hp', go_sem, c0, c1]

set_option maxHeartbeats 1000000 in
theorem and_any (b s x : Nat) (w : World) (hb : b < 2 ^ s) (hs : s ≤ 14) (hx : x < 2) :
    Makes Try.prog 32 #[.agg #[.int .u16 (b : Int), .int .u16 (s : Int)], .int .u32 (x : Int)] w (.agg #[.int .u16 ((b + x * 2 ^ s : Nat) : Int), .int .u16 ((s + 1 : Nat) : Int)]) := by
  unfold Makes
  obtain ⟨ho, hm⟩ := or_lay16 b x s 1 hb (by omega) (by omega)
  obtain hc : ((x : Int) * 2 ^ s) = ((x * 2 ^ s : Nat) : Int) := by simp
  have hw : IntKind.u16.wrap ((x : Int) * 2 ^ s) = (x : Int) * 2 ^ s := by rw [hc, IntKind.wrap_u16]; omega
  clear hc
  go_enter Try.func32, Try.ntmps32
  go_wp2
  have hp := heap_pushed [.cells #[.int .u16 (b : Int), .int .u16 (s : Int)] 62, .cells #[.int .u16 ((b : Int) + (x : Int) * 2 ^ s), .int .u16 ((s : Int) + 1)] 62] w
  exact bodyPost_ret (v := .agg #[.int .u16 ((b : Int) + (x : Int) * 2 ^ s), .int .u16 ((s : Int) + 1)]) (results_code Try.results32 rfl (cell_heap ((hp 1 _).2 rfl) rfl) (cell_heap ((hp 1 _).2 rfl) rfl)) rfl ⟨by simp, Below.al2 _ _ _⟩

end Go.Proofs.Ytlbhgackpjfhaaa
