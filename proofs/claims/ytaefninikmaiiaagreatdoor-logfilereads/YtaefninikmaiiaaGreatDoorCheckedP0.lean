-- MADE BY PROGRAM (checked-in-parts.mjs) out of YtaefninikmaiiaaGreatDoorChecked.lean: part 0 of 4: the items whose number leaves 0.
import Derived.Test.YtaefninikmaiiaaGreatDoorProg
import Derived.KernelRfl
import Derived.Items
import Derived.PartsItems
import Derived.CheckFast
import Derived.HeadItems
import GoSem.Claims
import Derived.Shelf.ItemsParts
import Derived.Test.YtaefninikmaiiaaGreatDoorCheckedPd
namespace Go.Proofs
mapM_items_part Tryz.el.told 0 4 : Tryz.bare.zipIdx.mapM (Elab.PartsItems.partAt Tryz.src) = .ok Tryz.parts
mapM_items_part Tryz.el.funcs 0 4 : Tryz.parts.mapM (Elab.one Tryz.progTables) = .ok Tryz.funcs.toList
forM_items_part Tryz.wf.types 0 4 : (List.range Tryz.src.types.size).forM (Check.typeAt Tryz.src) = .ok ()
forM_items_part Tryz.wf.names 0 4 : (List.range Tryz.src.decls.size).forM (Check.HeadItems.nameAt (Tryz.src.decls.toList.map (·.name))) = .ok ()
forM_items_part Tryz.wf.cutTypes 0 4 : Tryz.src.cutTypes.toList.forM (Check.cutType Tryz.src) = .ok ()
forM_items_part Tryz.wf.globals 0 4 : Tryz.src.globals.toList.forM (Check.global Tryz.src) = .ok ()
forM_items_part Tryz.wf.decls 0 4 : Tryz.src.decls.toList.forM (Check.decl Tryz.src) = .ok ()
forM_items_part Tryz.wf.entries 0 4 : (Tryz.src.inits.push Tryz.src.main).toList.forM (Check.entry Tryz.src) = .ok ()
forM_items_part Tryz.wt.methods 0 4 : (List.range Tryz.src.types.size).forM (Go.CheckTypes.methods Tryz.src) = .ok ()
forM_items_part Tryz.wt.decls 0 4 : Tryz.src.decls.toList.forM (Go.CheckTypes.decl Tryz.src) = .ok ()
forM_items_part Tryz.co.funcsF 0 4 : (List.range Tryz.prog.funcs.size).forM (CheckFast.funcAtF Tryz.prog) = .ok ()
forM_items_part Tryz.co.entries 0 4 : (Tryz.prog.inits.push Tryz.prog.main).toList.forM (CheckCode.entry Tryz.prog) = .ok ()
end Go.Proofs
