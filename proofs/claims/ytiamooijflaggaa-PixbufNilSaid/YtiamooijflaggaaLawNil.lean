/- The walk of the statement PixbufNil. -/
import Derived.Test.YtiamooijflaggaaPixM
import Derived.Test.YtiamooijflaggaaActLift
import Derived.Test.YtiamooijflaggaaNils
namespace Go.Proofs.Ytiamooijflaggaa
open Go.RowKit

theorem act_cells {w : World} {B : Nat} {v0 v1 v2 v3 v4 v5 v6 v7 v8 v9 v10 v11 v12 v13 v14 v15 v16 : Value} {t : TypeId} (h : w.heap[B]? = some (.cells #[v0, v1, v2, v3, v4, v5, v6, v7, v8, v9, v10, v11, v12, v13, v14, v15, v16] t)) :
    w.cell? ⟨B, 0, none⟩ = some v0 ∧ w.cell? ⟨B, 1, none⟩ = some v1 ∧ w.cell? ⟨B, 2, none⟩ = some v2 ∧ w.cell? ⟨B, 3, none⟩ = some v3 ∧ w.cell? ⟨B, 4, none⟩ = some v4 ∧ w.cell? ⟨B, 5, none⟩ = some v5 ∧ w.cell? ⟨B, 6, none⟩ = some v6 ∧ w.cell? ⟨B, 7, none⟩ = some v7 ∧ w.cell? ⟨B, 8, none⟩ = some v8 ∧ w.cell? ⟨B, 9, none⟩ = some v9 ∧ w.cell? ⟨B, 10, none⟩ = some v10 ∧ w.cell? ⟨B, 11, none⟩ = some v11 ∧ w.cell? ⟨B, 12, none⟩ = some v12 ∧ w.cell? ⟨B, 13, none⟩ = some v13 ∧ w.cell? ⟨B, 14, none⟩ = some v14 ∧ w.cell? ⟨B, 15, none⟩ = some v15 ∧ w.cell? ⟨B, 16, none⟩ = some v16 := by
  refine ⟨?_, ?_, ?_, ?_, ?_, ?_, ?_, ?_, ?_, ?_, ?_, ?_, ?_, ?_, ?_, ?_, ?_⟩ <;> simp [World.cell?, h]

theorem sameZero (w : World) : Makes Try.prog 33 #[IV 0 0 (.slice none 0 0), IV 0 0 (.slice none 0 0)] w (.bool true) := by
  have h := refSame_any 0 0 0 0 none none 0 0 [] [] w (.inl ⟨rfl, rfl⟩) (.inl ⟨rfl, rfl⟩) (by decide)
  simpa [eqL] using h

set_option maxRecDepth 100000 in
set_option maxHeartbeats 4000000 in
theorem nil_any (d x y c : Int) (r : Rc) (mw mh : Int) (p : Option Addr) (n cp : Nat) (t : Rc) (dx dy : Int) (w : World) : Makes Try.prog 7 #[ActV d x y c r mw mh (.slice p n cp) t dx dy] w (.bool true) := by
  unfold Makes
  go_enter Try.func7, Try.ntmps7
  go_upto_region 2 with (fail)
  have hz : (w.alloc (.cells #[.int .i64 d, .int .i64 x, .int .i64 y, .int .u32 c, .int .i64 r.x, .int .i64 r.y, .int .i64 r.a, .int .i64 r.b, .int .i64 mw, .int .i64 mh, .slice p n cp, .int .i64 t.x, .int .i64 t.y, .int .i64 t.a, .int .i64 t.b, .int .i64 dx, .int .i64 dy] 54)).heap[w.heap.size]? = some (.cells #[.int .i64 d, .int .i64 x, .int .i64 y, .int .u32 c, .int .i64 r.x, .int .i64 r.y, .int .i64 r.a, .int .i64 r.b, .int .i64 mw, .int .i64 mh, .slice p n cp, .int .i64 t.x, .int .i64 t.y, .int .i64 t.a, .int .i64 t.b, .int .i64 dx, .int .i64 dy] 54) := Array.getElem?_push_size
  have hbw := Below.al1 w (.cells #[.int .i64 d, .int .i64 x, .int .i64 y, .int .u32 c, .int .i64 r.x, .int .i64 r.y, .int .i64 r.a, .int .i64 r.b, .int .i64 mw, .int .i64 mh, .slice p n cp, .int .i64 t.x, .int .i64 t.y, .int .i64 t.a, .int .i64 t.b, .int .i64 dx, .int .i64 dy] 54)
  generalize (w.alloc (.cells #[.int .i64 d, .int .i64 x, .int .i64 y, .int .u32 c, .int .i64 r.x, .int .i64 r.y, .int .i64 r.a, .int .i64 r.b, .int .i64 mw, .int .i64 mh, .slice p n cp, .int .i64 t.x, .int .i64 t.y, .int .i64 t.a, .int .i64 t.b, .int .i64 dx, .int .i64 dy] 54)) = w0 at *
  have Hb0 := Lib.hid hbw
  have Hz0 := Lib.hid hz
  clear hbw hz
  obtain ⟨a0, a1, a2, a3, a4, a5, a6, a7, a8, a9, a10, a11, a12, a13, a14, a15, a16⟩ := act_cells Hz0.out
  go_wp2_with fail
  refine Calls.mono (fill_nil _ r c) ?_
  rintro e w1 ⟨rfl, hb⟩
  have Hb1 := Lib.hid (Hb0.out.trans (hb.mono Hb0.out.size))
  have Hz1 := Lib.hid ((hb.block _ (Array.getElem?_eq_some_iff.1 Hz0.out).1).trans Hz0.out)
  clear hb Hb0 Hz0 a0 a1 a2 a3 a4 a5 a6 a7 a8 a9 a10 a11 a12 a13 a14 a15 a16
  obtain ⟨a0, a1, a2, a3, a4, a5, a6, a7, a8, a9, a10, a11, a12, a13, a14, a15, a16⟩ := act_cells Hz1.out
  go_wp2_with fail
  refine Calls.mono (blit_nil _ x y mw mh (.slice p n cp) r) ?_
  rintro e w2 ⟨rfl, hb⟩
  have Hb2 := Lib.hid (Hb1.out.trans (hb.mono Hb1.out.size))
  have Hz2 := Lib.hid ((hb.block _ (Array.getElem?_eq_some_iff.1 Hz1.out).1).trans Hz1.out)
  clear hb Hb1 Hz1 a0 a1 a2 a3 a4 a5 a6 a7 a8 a9 a10 a11 a12 a13 a14 a15 a16
  obtain ⟨a0, a1, a2, a3, a4, a5, a6, a7, a8, a9, a10, a11, a12, a13, a14, a15, a16⟩ := act_cells Hz2.out
  go_wp2_with fail
  refine Calls.mono (at_nil _ x y) ?_
  rintro e w3 ⟨rfl, hb⟩
  have Hb3 := Lib.hid (Hb2.out.trans (hb.mono Hb2.out.size))
  have Hz3 := Lib.hid ((hb.block _ (Array.getElem?_eq_some_iff.1 Hz2.out).1).trans Hz2.out)
  clear hb Hb2 Hz2 a0 a1 a2 a3 a4 a5 a6 a7 a8 a9 a10 a11 a12 a13 a14 a15 a16
  obtain ⟨a0, a1, a2, a3, a4, a5, a6, a7, a8, a9, a10, a11, a12, a13, a14, a15, a16⟩ := act_cells Hz3.out
  go_wp2_with fail
  refine Calls.mono (part_nil _ r) ?_
  rintro e w4 ⟨rfl, hb⟩
  have Hb4 := Lib.hid (Hb3.out.trans (hb.mono Hb3.out.size))
  have Hz4 := Lib.hid ((hb.block _ (Array.getElem?_eq_some_iff.1 Hz3.out).1).trans Hz3.out)
  clear hb Hb3 Hz3 a0 a1 a2 a3 a4 a5 a6 a7 a8 a9 a10 a11 a12 a13 a14 a15 a16
  go_upto_region 6 with (fail)
  have hal := Below.al1 w4 (.cells #[.int .i64 0, .int .i64 0, .slice none 0 0] 39)
  have i5 : Im3 (w4.alloc (.cells #[.int .i64 0, .int .i64 0, .slice none 0 0] 39)) w4.heap.size 0 0 (.slice none 0 0) := Im3.new rfl
  have Hb5 := Lib.hid (Hb4.out.trans (hal.mono Hb4.out.size))
  have Hz5 := Lib.hid ((hal.block _ (Array.getElem?_eq_some_iff.1 Hz4.out).1).trans Hz4.out)
  have HI := Lib.hid i5
  obtain ⟨bp, hbp⟩ : ∃ bp, w4.heap.size = bp := ⟨_, rfl⟩
  rw [hbp] at HI
  generalize (w4.alloc (.cells #[.int .i64 0, .int .i64 0, .slice none 0 0] 39)) = w5 at *
  rw [hbp]
  clear hal i5 hbp Hb4 Hz4
  go_wp2_with fail
  refine Calls.mono (diff_nil _) ?_
  rintro e w6 ⟨rfl, hb⟩
  have Hb6 := Lib.hid (Hb5.out.trans (hb.mono Hb5.out.size))
  have Hz6 := Lib.hid ((hb.block _ (Array.getElem?_eq_some_iff.1 Hz5.out).1).trans Hz5.out)
  have HI' := Lib.hid (HI.out.later hb)
  clear HI
  have HI := HI'
  clear HI'
  clear hb Hb5 Hz5
  go_wp2_with fail
  refine Calls.mono (w_nil _) ?_
  rintro e w7 ⟨rfl, hb⟩
  have Hb7 := Lib.hid (Hb6.out.trans (hb.mono Hb6.out.size))
  have Hz7 := Lib.hid ((hb.block _ (Array.getElem?_eq_some_iff.1 Hz6.out).1).trans Hz6.out)
  have HI' := Lib.hid (HI.out.later hb)
  clear HI
  have HI := HI'
  clear HI'
  clear hb Hb6 Hz6
  go_wp2_with fail
  refine Calls.mono (h_nil _) ?_
  rintro e w8 ⟨rfl, hb⟩
  have Hb8 := Lib.hid (Hb7.out.trans (hb.mono Hb7.out.size))
  have Hz8 := Lib.hid ((hb.block _ (Array.getElem?_eq_some_iff.1 Hz7.out).1).trans Hz7.out)
  have HI' := Lib.hid (HI.out.later hb)
  clear HI
  have HI := HI'
  clear HI'
  clear hb Hb7 Hz7
  obtain ⟨a0, a1, a2, a3, a4, a5, a6, a7, a8, a9, a10, a11, a12, a13, a14, a15, a16⟩ := act_cells Hz8.out
  go_wp2_with fail
  refine Calls.mono (set_nil _ x y c) ?_
  rintro e w9 ⟨rfl, hb⟩
  have Hb9 := Lib.hid (Hb8.out.trans (hb.mono Hb8.out.size))
  have Hz9 := Lib.hid ((hb.block _ (Array.getElem?_eq_some_iff.1 Hz8.out).1).trans Hz8.out)
  have HI' := Lib.hid (HI.out.later hb)
  clear HI
  have HI := HI'
  clear HI'
  clear hb Hb8 Hz8 a0 a1 a2 a3 a4 a5 a6 a7 a8 a9 a10 a11 a12 a13 a14 a15 a16
  obtain ⟨a0, a1, a2, a3, a4, a5, a6, a7, a8, a9, a10, a11, a12, a13, a14, a15, a16⟩ := act_cells Hz9.out
  go_wp2_with fail
  refine Calls.mono (copy_nil _ t dx dy) ?_
  rintro e w10 ⟨rfl, hb⟩
  have Hb10 := Lib.hid (Hb9.out.trans (hb.mono Hb9.out.size))
  have Hz10 := Lib.hid ((hb.block _ (Array.getElem?_eq_some_iff.1 Hz9.out).1).trans Hz9.out)
  have HI' := Lib.hid (HI.out.later hb)
  clear HI
  have HI := HI'
  clear HI'
  clear hb Hb9 Hz9 a0 a1 a2 a3 a4 a5 a6 a7 a8 a9 a10 a11 a12 a13 a14 a15 a16
  obtain ⟨i0, i1, i2⟩ := HI.out.cells
  go_wp2_with fail
  refine Calls.mono (sameZero _) ?_
  rintro e w11 ⟨rfl, hb⟩
  have Hb11 := Lib.hid (Hb10.out.trans (hb.mono Hb10.out.size))
  have Hz11 := Lib.hid ((hb.block _ (Array.getElem?_eq_some_iff.1 Hz10.out).1).trans Hz10.out)
  clear hb Hb10 Hz10
  clear i0 i1 i2
  go_wp2_with fail
  refine Calls.mono (image_nil _) ?_
  rintro e w12 ⟨rfl, hb⟩
  have Hb12 := Lib.hid (Hb11.out.trans (hb.mono Hb11.out.size))
  have Hz12 := Lib.hid ((hb.block _ (Array.getElem?_eq_some_iff.1 Hz11.out).1).trans Hz11.out)
  clear hb Hb11 Hz11
  go_wp2_with fail
  refine Calls.mono (sameZero _) ?_
  rintro e w13 ⟨rfl, hb⟩
  have Hb13 := Lib.hid (Hb12.out.trans (hb.mono Hb12.out.size))
  have Hz13 := Lib.hid ((hb.block _ (Array.getElem?_eq_some_iff.1 Hz12.out).1).trans Hz12.out)
  clear hb Hb12 Hz12
  go_wp2_with fail
  refine Calls.mono (same_nil _) ?_
  rintro e w14 ⟨rfl, hb⟩
  have Hb14 := Lib.hid (Hb13.out.trans (hb.mono Hb13.out.size))
  have Hz14 := Lib.hid ((hb.block _ (Array.getElem?_eq_some_iff.1 Hz13.out).1).trans Hz13.out)
  clear hb Hb13 Hz13
  go_wp2_with fail
  refine Calls.mono (clone_nil _) ?_
  rintro e w15 ⟨rfl, hb⟩
  have Hb15 := Lib.hid (Hb14.out.trans (hb.mono Hb14.out.size))
  have Hz15 := Lib.hid ((hb.block _ (Array.getElem?_eq_some_iff.1 Hz14.out).1).trans Hz14.out)
  clear hb Hb14 Hz14
  go_wp2_with fail
  refine Calls.mono (wakes3_any _) ?_
  rintro e w16 ⟨rfl, hb⟩
  have Hb16 := Lib.hid (Hb15.out.trans (hb.mono Hb15.out.size))
  have Hz16 := Lib.hid ((hb.block _ (Array.getElem?_eq_some_iff.1 Hz15.out).1).trans Hz15.out)
  clear hb Hb15 Hz15
  go_wp2
  go_ret
  exact ⟨rfl, Hb16.out⟩

end Go.Proofs.Ytiamooijflaggaa
