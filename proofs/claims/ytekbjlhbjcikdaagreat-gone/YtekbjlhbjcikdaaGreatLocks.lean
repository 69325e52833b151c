/-
  The numbers under which this translation holds sync.Mutex's functions and types, and that it holds them.
-/
import Derived.Test.YtekbjlhbjcikdaaGreatProg
import Derived.Conc.MuLib
import Derived.KernelRfl
namespace Go.Proofs
abbrev Tryz.muLink : Go.Conc.Locks.MuLink := { lock := 45, unlock := 46, ilock := 83, iunlock := 84, lockSlow := 125, unlockSlow := 128, disable := 121, enable := 123, acquire := 124, relMerge := 126, cas32 := 122, add32 := 127, tMutex := 88, tIMutex := 86, tPMutex := 117, tPIMutex := 152, tPI32 := 154, tUP := 156, tNoCopy := 83, tU32 := 84 }
theorem Tryz.muLib : Go.Conc.Locks.MuLib Tryz.prog Tryz.muLink :=
  ⟨Tryz.func45, Tryz.func46, Tryz.func83, Tryz.func84, Tryz.func121, Tryz.func123, Tryz.func124, Tryz.func126, Tryz.func122, Tryz.func127,
   Tryz.underlying86, Tryz.runUnderlying86, Tryz.sizeOf86, Tryz.isAgg86, Tryz.zeroValue86, Tryz.underlying88, Tryz.runUnderlying88, Tryz.sizeOf88, Tryz.isAgg88, Tryz.zeroValue88, Tryz.underlying117, Tryz.runUnderlying117, Tryz.sizeOf117, Tryz.isAgg117, Tryz.zeroValue117, Tryz.underlying152, Tryz.runUnderlying152, Tryz.sizeOf152, Tryz.isAgg152, Tryz.zeroValue152, Tryz.underlying154, Tryz.runUnderlying154, Tryz.sizeOf154, Tryz.isAgg154, Tryz.zeroValue154, Tryz.underlying156, Tryz.runUnderlying156, Tryz.sizeOf156, Tryz.isAgg156, Tryz.zeroValue156, Tryz.underlying83, Tryz.runUnderlying83, Tryz.sizeOf83, Tryz.isAgg83, Tryz.zeroValue83, Tryz.underlying21, Tryz.runUnderlying21, Tryz.sizeOf21, Tryz.isAgg21, Tryz.zeroValue21, (by kernel_rfl)⟩
end Go.Proofs
