/- No buffer: what every call of it answers. -/
import Derived.Test.YtiamooijflaggaaPixL
import Derived.Handy
namespace Go.Proofs.Ytiamooijflaggaa
open Go.RowKit

theorem fill_nil (w : World) (r : Rc) (c : Int) : Makes Try.prog 40 #[.pointer none, RV r, .int .u32 c] w (.tuple #[]) := by
  unfold Makes
  go_enter Try.func40, Try.ntmps40
  go_wp2
  go_returns
  exact ⟨rfl, by go_grown⟩

theorem blit_nil (w : World) (x y mw mh : Int) (s : Value) (r : Rc) : Makes Try.prog 41 #[.pointer none, .int .i64 x, .int .i64 y, IV mw mh s, RV r] w (.tuple #[]) := by
  unfold Makes
  go_enter Try.func41, Try.ntmps41
  go_wp2
  go_returns
  exact ⟨rfl, by go_grown⟩

theorem at_nil (w : World) (x y : Int) : Makes Try.prog 47 #[.pointer none, .int .i64 x, .int .i64 y] w (.tuple #[.int .u32 0, .int .i64 8]) := by
  unfold Makes
  go_enter Try.func47, Try.ntmps47
  go_wp2
  go_returns
  exact ⟨rfl, by go_grown⟩

theorem part_nil (w : World) (r : Rc) : Makes Try.prog 45 #[.pointer none, RV r] w (.tuple #[IV 0 0 (.slice none 0 0), .int .i64 8]) := by
  unfold Makes
  go_enter Try.func45, Try.ntmps45
  go_wp2
  go_returns
  exact ⟨rfl, by go_grown⟩

theorem diff_nil (w : World) : Makes Try.prog 51 #[.pointer none, .pointer none] w (.tuple #[.slice none 0 0, .int .i64 8]) := by
  unfold Makes
  go_enter Try.func51, Try.ntmps51
  go_wp2
  go_returns
  exact ⟨rfl, by go_grown⟩

theorem w_nil (w : World) : Makes Try.prog 34 #[.pointer none] w (.int .i64 0) := by
  unfold Makes
  go_enter Try.func34, Try.ntmps34
  go_wp2
  go_returns
  exact ⟨rfl, by go_grown⟩

theorem h_nil (w : World) : Makes Try.prog 35 #[.pointer none] w (.int .i64 0) := by
  unfold Makes
  go_enter Try.func35, Try.ntmps35
  go_wp2
  go_returns
  exact ⟨rfl, by go_grown⟩

theorem set_nil (w : World) (x y c : Int) : Makes Try.prog 37 #[.pointer none, .int .i64 x, .int .i64 y, .int .u32 c] w (.int .i64 8) := by
  unfold Makes
  go_enter Try.func37, Try.ntmps37
  go_wp2
  go_returns
  exact ⟨rfl, by go_grown⟩

theorem copy_nil (w : World) (t : Rc) (dx dy : Int) : Makes Try.prog 43 #[.pointer none, CV t dx dy] w (.int .i64 8) := by
  unfold Makes
  go_enter Try.func43, Try.ntmps43
  go_wp2
  go_returns
  exact ⟨rfl, by go_grown⟩

theorem image_nil (w : World) : Makes Try.prog 48 #[.pointer none] w (IV 0 0 (.slice none 0 0)) := by
  unfold Makes
  go_enter Try.func48, Try.ntmps48
  go_wp2
  go_returns
  exact ⟨rfl, by go_grown⟩

theorem same_nil (w : World) : Makes Try.prog 52 #[.pointer none, .pointer none] w (.bool true) := by
  unfold Makes
  go_enter Try.func52, Try.ntmps52
  go_wp2
  go_returns
  exact ⟨rfl, by go_grown⟩

theorem clone_nil (w : World) : Makes Try.prog 55 #[.pointer none] w (.pointer none) := by
  unfold Makes
  go_enter Try.func55, Try.ntmps55
  go_wp2
  go_returns
  exact ⟨rfl, by go_grown⟩

end Go.Proofs.Ytiamooijflaggaa
