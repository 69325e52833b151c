/-
  Walks of Tick, Recover, Fuse, Log.
-/
import Derived.Test.YtekbjlhbjcikdaaW16
namespace Go.Proofs.Ytekbjlhbjcikdaa
open Go.RowKit Acc

theorem Rep.risen {w : World} {L : Lay} {s : St} (h : Rep w L s) (n : Nat) (hn : n ≤ s.parts) : Leaves L w (s.rise n) (w.setCell ⟨L.ab, n * 4 + 1, none⟩ (.bool false)) := by
  refine ⟨L, rfl, rfl, ?_, ext_ab h rfl rfl rfl (by simp [World.setCell]) (fun b h1 _ => block_setCell h1)⟩
  have := h.fate (w' := w.setCell ⟨L.ab, n * 4 + 1, none⟩ (.bool false)) n true (s.fuse n) (by simp [World.setCell]) (fun b hb => block_setCell hb) (fun j h1 _ _ => cell_other (by omega)) (fun j => by simpa using h.fa j)
    (by rw [cell_same (h.cd n hn)]; rfl) ((cell_other (by omega)).trans (h.cb n hn)) ((cell_other (by omega)).trans (h.cu n hn))
  have e : s.rise n = { s with up := fun i => if i = n then true else s.up i, fuse := fun i => if i = n then s.fuse n else s.fuse i } := by
    unfold St.rise
    have : (fun i => if i = n then s.fuse n else s.fuse i) = s.fuse := by funext i; split <;> simp_all
    rw [this]
  rw [e]; exact this

theorem Rep.fuseLaid {w : World} {L : Lay} {s : St} (h : Rep w L s) (n k : Nat) (hn : n ≤ s.parts) : Leaves L w (s.fused n k) ((w.setCell ⟨L.ab, n * 4 + 2, none⟩ (.bool true)).setCell ⟨L.ab, n * 4 + 2 + 1, none⟩ (.int .i64 k)) := by
  refine ⟨L, rfl, rfl, ?_, ext_ab h rfl rfl rfl (by simp [World.setCell]) (fun b h1 _ => by rw [block_setCell h1, block_setCell h1])⟩
  have := h.fate (w' := (w.setCell ⟨L.ab, n * 4 + 2, none⟩ (.bool true)).setCell ⟨L.ab, n * 4 + 2 + 1, none⟩ (.int .i64 k)) n (s.up n) (some k) (by simp [World.setCell]) (fun b hb => by rw [block_setCell hb, block_setCell hb]) (fun j _ h2 h3 => by rw [cell_other (by omega), cell_other (by omega)]) (fun j => by simpa using h.fa j)
    (by rw [cell_other (by omega), cell_other (by omega), h.cd n hn]) (by rw [cell_other (by omega), cell_same (h.cb n hn)]; rfl) (by rw [show n * 4 + 3 = n * 4 + 2 + 1 from rfl, cell_same (u := .int .i64 ((s.fuse n).getD 0 : Nat)) ((cell_other (by omega)).trans (h.cu n hn))]; rfl)
  have e : s.fused n k = { s with up := fun i => if i = n then s.up n else s.up i, fuse := fun i => if i = n then some k else s.fuse i } := by
    unfold St.fused
    have : (fun i => if i = n then s.up n else s.up i) = s.up := by funext i; split <;> simp_all
    rw [this]
  rw [e]; exact this

end Go.Proofs.Ytekbjlhbjcikdaa
